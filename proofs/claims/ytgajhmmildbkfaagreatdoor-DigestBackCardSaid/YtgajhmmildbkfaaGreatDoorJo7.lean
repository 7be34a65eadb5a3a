/- Texts of one claim, joined: each begins with what it proves. -/
import Derived.Test.YtgajhmmildbkfaaGreatDoorJo6
import Derived.Test.YtgajhmmildbkfaaGreatDoorJo5
import Derived.Test.YtgajhmmildbkfaaGreatDoorJo4
import Derived.Test.YtgajhmmildbkfaaGreatDoorJo1
import Derived.Test.YtgajhmmildbkfaaGreatDoorJo3
import Derived.Deep.Onto
import Derived.Shelf.Strings.Prefix
import Derived.Shelf.Strings.SlTrimAscii
import Derived.Deep.Draws
import Derived.Deep.LoopGhost
/- The reader's names, values and tokens, by the program. -/
namespace Go.Proofs.YtgajhmmildbkfaaGreatDoor
open Go.RowKit

theorem markL_cons (t : List UInt8) : markL (61 :: t) = some t := rfl
theorem markL_no (r : List UInt8) (h : ∀ t, r ≠ 61 :: t) : markL r = none := by
  cases r with
  | nil => rfl
  | cons c t =>
    rw [markL, if_neg]
    intro e
    exact h t (by rw [e])
/-- What the reader's name answers. -/
def NmAns (b : Nat) (s : ByteArray) (r : List UInt8) (e : Ending) (w' : World) : Prop :=
  (∃ (n : ByteArray) (t : List UInt8), nameL r = some (n, t) ∧ n.size ≤ 3000 ∧ e = .returned (.tuple #[.string n, .bool true]) ∧ CurR w' b s t) ∨
  (nameL r = none ∧ (∃ n : ByteArray, e = .returned (.tuple #[.string n, .bool false])) ∧ CurR w' b s (nameE r))
set_option maxRecDepth 100000 in
set_option maxHeartbeats 2000000 in
theorem name_any (b : Nat) (s : ByteArray) (hs : s.size ≤ 3000) (r : List UInt8) (w : World) (hc : CurR w b s r) :
    Calls Tryz.prog 108 #[.agg #[.pointer (some ⟨b, 0, none⟩), .string s]] w fun e w' => NmAns b s r e w' ∧ w.grownBy w' (some b) := by
  have hbl := hc.lt
  have hrl := hc.len
  have hrun := runL_le tokB r
  have HC1 : Hid (CurR (w.alloc (.cells #[.pointer (some ⟨b, 0, none⟩), .string s] 66)) b s r) := hc.below ((Below.refl _ _).alloc (Nat.le_refl _) _)
  have HG1 : Hid (w.grownBy (w.alloc (.cells #[.pointer (some ⟨b, 0, none⟩), .string s] 66)) (some b)) := grown_alloc _ _ _
  have hne : some w.heap.size ≠ some b := by intro e; injection e with e; omega
  clear hc
  go_enter Tryz.func108, Tryz.ntmps108
  go_wp2_with fail
  refine (rd_word b s hs r _ HC1.out).mono ?_
  rintro e w2 ⟨t, rfl, htz, HT, hc2, hg2⟩
  obtain ⟨hx0, hx1⟩ := box_reader hg2 hne
  have HC2 : Hid (CurR w2 b s (r.dropWhile tokB) ∧ (w.alloc (.cells #[.pointer (some ⟨b, 0, none⟩), .string s] 66)).grownBy w2 (some b)) := ⟨hc2, hg2⟩
  have ht3 : t.size ≤ 3000 := by omega
  clear hc2 hg2 HC1
  by_cases h0 : r.takeWhile tokB = []
  · have HN : Hid (nameL r = none ∧ nameE r = r) := by unfold nameL nameE; rw [if_pos h0, if_pos h0]; exact ⟨rfl, rfl⟩
    have HD : Hid (r.dropWhile tokB = r) := run_zero r tokB (by unfold runL; rw [h0]; simp)
    have ht0 : t.size = 0 := by rw [htz]; unfold runL; rw [h0]; rfl
    obtain rfl : t = ⟨#[]⟩ := ByteArray.ext (Array.eq_empty_of_size_eq_zero ht0)
    clear h0 htz
    go_wp2
    go_ret2
    exact ⟨.inr ⟨HN.out.1, ⟨_, rfl⟩, by rw [HN.out.2, ← HD.out]; exact HC2.out.1⟩, grown_trans HG1.out HC2.out.2⟩
  · have HN0 : Hid (r.takeWhile tokB ≠ []) := h0
    have hte : t.toList.isEmpty = false := by
      rw [HT.out, ByteArray.toList_eq, bs_data]
      cases h : r.takeWhile tokB with
      | nil => exact absurd h h0
      | cons x y => rfl
    clear h0 htz
    go_wp2_with fail
    refine (rd_blanks b s hs _ _ HC2.out.1).mono ?_
    rintro e w3 ⟨rfl, hc3, hg3⟩
    have HC3 : Hid (CurR w3 b s ((r.dropWhile tokB).dropWhile blankB) ∧ (w.alloc (.cells #[.pointer (some ⟨b, 0, none⟩), .string s] 66)).grownBy w3 (some b)) := ⟨hc3, grown_trans HC2.out.2 hg3⟩
    obtain ⟨hy0, hy1⟩ := box_reader HC3.out.2 hne
    clear hc3 hg3 hx0 hx1 HC2
    by_cases hm : ∃ u, (r.dropWhile tokB).dropWhile blankB = 61 :: u
    · obtain ⟨u, hu⟩ := hm
      have HN : Hid (nameL r = some (t, u)) := by show _ = _; unfold nameL; rw [if_neg HN0.out, hu, markL_cons, HT.out]; rfl
      rw [hu] at HC3
      clear hu
      go_wp2_with fail
      refine (rd_mark_yes b s hs 61 u _ HC3.out.1).mono ?_
      rintro e w4 ⟨rfl, hc4, hg4⟩
      have HC4 : Hid (CurR w4 b s u ∧ w.grownBy w4 (some b)) := ⟨hc4, grown_trans HG1.out (grown_trans HC3.out.2 hg4)⟩
      clear hc4 hg4
      go_wp2
      go_ret2
      exact ⟨.inl ⟨t, u, HN, ht3, rfl, HC4.out.1⟩, HC4.out.2⟩
    · have HN : Hid (nameL r = none ∧ nameE r = (r.dropWhile tokB).dropWhile blankB) := by unfold nameL nameE; rw [if_neg HN0.out, if_neg HN0.out, markL_no _ (fun u e => hm ⟨u, e⟩)]; exact ⟨rfl, rfl⟩
      go_wp2_with fail
      refine (rd_mark_no b s 61 _ (fun u e => hm ⟨u, e⟩) _ HC3.out.1).mono ?_
      rintro e w4 ⟨rfl, q, rfl⟩
      go_wp2
      go_ret2
      exact ⟨.inr ⟨HN.out.1, ⟨t, rfl⟩, by rw [HN.out.2]; exact HC3.out.1.drewN _⟩, grown_trans HG1.out (grown_trans HC3.out.2 (grown_drewN _ _ _))⟩
set_option maxRecDepth 100000 in
set_option maxHeartbeats 2000000 in
theorem nameAhead_any (b : Nat) (s : ByteArray) (hs : s.size ≤ 3000) (r : List UInt8) (w : World) (hc : CurR w b s r) :
    Calls Tryz.prog 79 #[.agg #[.pointer (some ⟨b, 0, none⟩), .string s]] w fun e w' => e = .returned (.bool (nameL r).isSome) ∧ CurR w' b s r ∧ w.grownBy w' (some b) := by
  have hbl := hc.lt
  have HSF : Hid (r <:+ s.data.toList) := hc.2
  have HC1 : Hid (CurR (w.alloc (.cells #[.pointer (some ⟨b, 0, none⟩), .string s] 66)) b s r) := hc.below ((Below.refl _ _).alloc (Nat.le_refl _) _)
  have HG1 : Hid (w.grownBy (w.alloc (.cells #[.pointer (some ⟨b, 0, none⟩), .string s] 66)) (some b)) := grown_alloc _ _ _
  have hne : some w.heap.size ≠ some b := by intro e; injection e with e; omega
  obtain ⟨k, HK⟩ : ∃ k, Hid (s.size - r.length = k) := ⟨_, rfl⟩
  have hat := rd_at b s r _ HC1.out
  rw [HK.out] at hat
  clear hc
  go_enter Tryz.func79, Tryz.ntmps79
  go_wp2_with (go_at_call 22; refine hat.mono ?_; rintro e w1 ⟨rfl, hw1⟩; obtain rfl := hw1.symm; clear hw1 hat)
  refine (name_any b s hs r _ HC1.out).mono ?_
  rintro e w2 ⟨hn, hg2⟩
  obtain ⟨hx0, hx1⟩ := box_reader hg2 hne
  have HG2 : Hid (w.grownBy w2 (some b)) := grown_trans HG1.out hg2
  clear hg2
  rcases hn with ⟨n, t, h1, _, rfl, hc2⟩ | ⟨h1, ⟨n, rfl⟩, hc2⟩
  · have HN : Hid ((nameL r).isSome = true) := by show _ = _; rw [h1]; rfl
    have HC2 : Hid (CurR w2 b s t) := hc2
    clear h1 hc2
    go_wp2_with fail
    refine (rd_go b s t r HSF.out _ (by rw [HK.out]) _ HC2.out).mono ?_
    rintro e w3 ⟨rfl, hc3, hg3⟩
    go_wp2
    go_ret
    exact ⟨ret_bool HN.out.symm, hc3, grown_trans HG2.out hg3⟩
  · have HN : Hid ((nameL r).isSome = false) := by show _ = _; rw [h1]; rfl
    have HC2 : Hid (CurR w2 b s (nameE r)) := hc2
    clear h1 hc2
    go_wp2_with fail
    refine (rd_go b s _ r HSF.out _ (by rw [HK.out]) _ HC2.out).mono ?_
    rintro e w3 ⟨rfl, hc3, hg3⟩
    go_wp2
    go_ret
    exact ⟨ret_bool HN.out.symm, hc3, grown_trans HG2.out hg3⟩
/-- What the reader's value answers. -/
def VlAns (b : Nat) (s : ByteArray) (r : List UInt8) (e : Ending) (w' : World) : Prop :=
  (∃ (v : ByteArray) (t : List UInt8), valueL r = some (v, t) ∧ v.size ≤ 3000 ∧ e = .returned (.tuple #[.string v, .bool true]) ∧ CurR w' b s t) ∨
  (valueL r = none ∧ e = .returned (.tuple #[.string ⟨#[]⟩, .bool false]) ∧ CurR w' b s r)
set_option maxRecDepth 100000 in
set_option maxHeartbeats 2000000 in
theorem val_any (b : Nat) (s : ByteArray) (hs : s.size ≤ 3000) (r : List UInt8) (w : World) (hc : CurR w b s r) :
    Calls Tryz.prog 109 #[.agg #[.pointer (some ⟨b, 0, none⟩), .string s]] w fun e w' => VlAns b s r e w' ∧ w.grownBy w' (some b) := by
  have hbl := hc.lt
  have hrl := hc.len
  have hrun := runL_le tokB r
  have HC1 : Hid (CurR (w.alloc (.cells #[.pointer (some ⟨b, 0, none⟩), .string s] 66)) b s r) := hc.below ((Below.refl _ _).alloc (Nat.le_refl _) _)
  have HG1 : Hid (w.grownBy (w.alloc (.cells #[.pointer (some ⟨b, 0, none⟩), .string s] 66)) (some b)) := grown_alloc _ _ _
  have hne : some w.heap.size ≠ some b := by intro e; injection e with e; omega
  clear hc
  go_enter Tryz.func109, Tryz.ntmps109
  go_wp2_with fail
  refine (rd_word b s hs r _ HC1.out).mono ?_
  rintro e w2 ⟨t, rfl, htz, HT, hc2, hg2⟩
  obtain ⟨hx0, hx1⟩ := box_reader hg2 hne
  have HC2 : Hid (CurR w2 b s (r.dropWhile tokB) ∧ w.grownBy w2 (some b)) := ⟨hc2, grown_trans HG1.out hg2⟩
  have ht3 : t.size ≤ 3000 := by omega
  clear hc2 hg2 HC1
  by_cases h0 : r.takeWhile tokB = []
  · have HN : Hid (valueL r = (quotedL r).map fun x => (bs x.1, r.drop x.2)) := by show _ = _; unfold valueL; rw [if_pos h0]
    have HD : Hid (r.dropWhile tokB = r) := run_zero r tokB (by unfold runL; rw [h0]; simp)
    have ht0 : t.size = 0 := by rw [htz]; unfold runL; rw [h0]; rfl
    obtain rfl : t = ⟨#[]⟩ := ByteArray.ext (Array.eq_empty_of_size_eq_zero ht0)
    rw [HD.out] at HC2
    clear h0 htz
    go_wp2_with fail
    refine (rd_quoted b s hs r _ HC2.out.1).mono ?_
    rintro e w3 ⟨⟨v, n, hq, rfl, hc3⟩ | ⟨hq, rfl, hc3⟩, hg3⟩
    · have HV : Hid (valueL r = some (bs v, r.drop n)) := by show _ = _; rw [HN.out, hq]; rfl
      have hvz : (bs v).size ≤ 3000 := by
        have := quoted_size _ _ _ hq
        rw [bs_size]
        omega
      have HC3 : Hid (CurR w3 b s (r.drop n) ∧ w.grownBy w3 (some b)) := ⟨hc3, grown_trans HC2.out.2 hg3⟩
      have HVZ : Hid ((bs v).size ≤ 3000) := hvz
      obtain ⟨x, HX⟩ : ∃ x, Hid (bs v = x) := ⟨_, rfl⟩
      rw [HX.out] at HV HVZ ⊢
      clear hq hc3 hg3 hvz HN
      go_wp2
      go_ret2
      exact ⟨.inl ⟨x, _, HV, HVZ, rfl, HC3.out.1⟩, HC3.out.2⟩
    · have HV : Hid (valueL r = none) := by show _ = _; rw [HN.out, hq]; rfl
      have HC3 : Hid (CurR w3 b s r ∧ w.grownBy w3 (some b)) := ⟨hc3, grown_trans HC2.out.2 hg3⟩
      clear hq hc3 hg3 HN
      go_wp2
      go_ret2
      exact ⟨.inr ⟨HV, rfl, HC3.out.1⟩, HC3.out.2⟩
  · have HN : Hid (valueL r = some (t, r.dropWhile tokB)) := by show _ = _; unfold valueL; rw [if_neg h0, HT.out]
    have hte : t.toList.isEmpty = false := by
      rw [HT.out, ByteArray.toList_eq, bs_data]
      cases h : r.takeWhile tokB with
      | nil => exact absurd h h0
      | cons x y => rfl
    clear h0 htz
    go_wp2
    go_ret2
    exact ⟨.inl ⟨t, _, HN, ht3, rfl, HC2.out.1⟩, HC2.out.2⟩
end Go.Proofs.YtgajhmmildbkfaaGreatDoor

/- The reader's parameter, by the program. -/
namespace Go.Proofs.YtgajhmmildbkfaaGreatDoor
open Go.RowKit

/-- An error at a place, among the blocks from B on. -/
def IsAt (w : World) (v : Value) (B : Nat) (n p : Int) : Prop :=
  ∃ g : Nat, v = .iface 79 (.pointer (some ⟨g, 0, none⟩)) ∧ w.cell? ⟨g, 0, none⟩ = some (.int .i64 n) ∧ w.cell? ⟨g, 1, none⟩ = some (.int .i64 p) ∧ B ≤ g ∧ g < w.heap.size
theorem IsAt.grown {w w' : World} {v : Value} {B : Nat} {n p : Int} {row : Option Nat} (h : IsAt w v B n p) (hg : w.grownBy w' row) (hr : ∀ k, row = some k → k < B) : IsAt w' v B n p := by
  obtain ⟨g, h1, h2, h3, h4, h5⟩ := h
  have hne : some g ≠ row := fun e => by have := hr g e.symm; omega
  exact ⟨g, h1, hg.cell h2 hne, hg.cell h3 hne, h4, Nat.lt_of_lt_of_le h5 hg.size⟩
theorem IsAt.below {w w' : World} {v : Value} {B : Nat} {n p : Int} (h : IsAt w v B n p) (hb : Below w.heap.size w w') : IsAt w' v B n p :=
  h.grown (row := none) ⟨hb.os, hb.tape, hb.output, hb.size, fun i hi _ => hb.block i hi⟩ (fun k e => by cases e)
theorem IsAt.mono {w : World} {v : Value} {B C : Nat} {n p : Int} (h : IsAt w v B n p) (hC : C ≤ B) : IsAt w v C n p := by
  obtain ⟨g, h1, h2, h3, h4, h5⟩ := h
  exact ⟨g, h1, h2, h3, Nat.le_trans hC h4, h5⟩
theorem wrong_any (n p : Int) (w : World) : Calls Tryz.prog 53 #[.int .i64 n, .int .i64 p] w fun e w' => (∃ g : Nat, e = .returned (.iface 79 (.pointer (some ⟨g, 0, none⟩))) ∧ w'.cell? ⟨g, 0, none⟩ = some (.int .i64 n) ∧ w'.cell? ⟨g, 1, none⟩ = some (.int .i64 p) ∧ w.heap.size ≤ g ∧ g < w'.heap.size) ∧ Below w.heap.size w w' := by
  go_enter Tryz.func53, Tryz.ntmps53
  go_wp2
  go_ret
  exact ⟨⟨w.heap.size, rfl, World.cell?_alloc_mark _ _ _ _ _, World.cell?_alloc_mark _ _ _ _ _, Nat.le_refl _, by simp⟩, (Below.refl _ _).alloc (Nat.le_refl _) _⟩
theorem told_find (acc : List Par) (n : ByteArray) : toldL acc n = (acc.find? fun p => sameL p.1.data.toList n.data.toList).isSome := by
  unfold toldL
  rw [Bool.eq_iff_iff, List.any_eq_true, List.find?_isSome]
/-- What the reader's param answers. -/
def ParAns (b : Nat) (s : ByteArray) (acc : List Par) (r : List UInt8) (B : Nat) (e : Ending) (w' : World) : Prop :=
  (∃ (p : Par) (u : List UInt8), paramL acc r = .ok (p, u) ∧ p.1.size ≤ 3000 ∧ p.2.size ≤ 3000 ∧ e = .returned (.tuple #[.agg #[.string p.1, .string p.2], .nilIface]) ∧ CurR w' b s u) ∨
  (∃ (n left : Nat) (v : Value), paramL acc r = .error (n, left) ∧ e = .returned (.tuple #[.agg #[.string ⟨#[]⟩, .string ⟨#[]⟩], v]) ∧ IsAt w' v B n ((s.size - left : Nat) : Int))
theorem box_two {w w' : World} {b : Nat} {s : ByteArray} {x y : Value} {T : TypeId} {row : Option Nat} (hg : ((w.alloc (.cells #[.pointer (some ⟨b, 0, none⟩), .string s] 66)).alloc (.cells #[x, y] T)).grownBy w' row) (hr : ∀ k, row = some k → k < w.heap.size) :
    (w'.cell? ⟨w.heap.size, 0, none⟩ = some (.pointer (some ⟨b, 0, none⟩)) ∧ w'.cell? ⟨w.heap.size, 1, none⟩ = some (.string s)) ∧ (w'.cell? ⟨w.heap.size + 1, 0, none⟩ = some x ∧ w'.cell? ⟨w.heap.size + 1, 1, none⟩ = some y) ∧ (w'.frozen? ⟨w.heap.size + 1, 0, none⟩ = false ∧ w'.frozen? ⟨w.heap.size + 1, 1, none⟩ = false) ∧ w.heap.size + 1 < w'.heap.size := by
  have h1 : some w.heap.size ≠ row := fun e => by have := hr _ e.symm; omega
  have h2 : some (w.heap.size + 1) ≠ row := fun e => by have := hr _ e.symm; omega
  have hz : (w.alloc (.cells #[.pointer (some ⟨b, 0, none⟩), .string s] 66)).heap.size = w.heap.size + 1 := by simp
  have ha : ∀ j, ((w.alloc (.cells #[.pointer (some ⟨b, 0, none⟩), .string s] 66)).alloc (.cells #[x, y] T)).cell? ⟨w.heap.size, j, none⟩ = #[.pointer (some ⟨b, 0, none⟩), .string s][j]? := fun j => by
    rw [World.cell?_alloc_lt _ _ ⟨w.heap.size, j, none⟩ (by simp)]
    exact World.cell?_alloc_mark _ _ _ _ _
  have hb : ∀ j, ((w.alloc (.cells #[.pointer (some ⟨b, 0, none⟩), .string s] 66)).alloc (.cells #[x, y] T)).cell? ⟨w.heap.size + 1, j, none⟩ = #[x, y][j]? := fun j => by
    rw [← hz]
    exact World.cell?_alloc_mark _ _ _ _ _
  have hf : ∀ j, w'.frozen? ⟨w.heap.size + 1, j, none⟩ = false := fun j => by
    have e1 : w'.heap[w.heap.size + 1]? = some (.cells #[x, y] T (0, 0)) := by
      rw [hg.block (w.heap.size + 1) (by simp) h2, ← hz]
      exact heap_alloc_new _ _
    simp [World.frozen?, e1]
  refine ⟨⟨hg.cell (ha 0) h1, hg.cell (ha 1) h1⟩, ⟨hg.cell (hb 0) h2, hg.cell (hb 1) h2⟩, ⟨hf 0, hf 1⟩, ?_⟩
  exact Nat.lt_of_lt_of_le (by simp) hg.size
theorem res_end {w : World} {b : Nat} {u v : Value} (h0 : w.cell? ⟨b, 0, none⟩ = some u) (h1 : w.cell? ⟨b, 1, none⟩ = some v) (x y : Value) :
    ((w.setCell ⟨b, 0, none⟩ x).setCell ⟨b, 1, none⟩ y).cell? ⟨b, 0, none⟩ = some x ∧ ((w.setCell ⟨b, 0, none⟩ x).setCell ⟨b, 1, none⟩ y).cell? ⟨b, 1, none⟩ = some y := by
  have e1 : (w.setCell ⟨b, 0, none⟩ x).cell? ⟨b, 1, none⟩ = some v := by
    rw [World.cell?_setCell_other _ _ _ _ (by intro e; injection e with _ e2; omega)]
    exact h1
  refine ⟨?_, World.cell?_setCell_same _ _ _ e1⟩
  rw [World.cell?_setCell_other _ _ _ _ (by intro e; injection e with _ e2; omega)]
  exact World.cell?_setCell_same _ _ _ h0
theorem grown_setNew {w w' : World} {row : Option Nat} (h : w.grownBy w' row) {blk : Nat} (hb : w.heap.size ≤ blk) (j : Nat) (v : Value) : w.grownBy (w'.setCell ⟨blk, j, none⟩ v) row :=
  ⟨h.os, h.tape, h.output, by simp [World.setCell]; exact h.size, fun i hi hr => (Below.heap_setCell _ _ _ _ (by show i ≠ blk; omega)).trans (h.block i hi hr)⟩
theorem fin_err {w w6 : World} {b rb C : Nat} {n p : Int} {v : Value} (hB : w.heap.size ≤ rb) (hrb : rb < C) (hat : IsAt w6 v C n p) (hg : w.grownBy w6 (some b)) (x y : Value) :
    IsAt ((w6.setCell ⟨rb, 0, none⟩ x).setCell ⟨rb, 1, none⟩ y) v w.heap.size n p ∧ w.grownBy ((w6.setCell ⟨rb, 0, none⟩ x).setCell ⟨rb, 1, none⟩ y) (some b) :=
  ⟨(((hat.grown (grown_set _ rb 0 x) (fun k e => by injection e with e; omega)).grown (grown_set _ rb 1 y) (fun k e => by injection e with e; omega))).mono (by omega), grown_setNew (grown_setNew hg hB 0 x) hB 1 y⟩
theorem fin_ok {w w6 : World} {b rb : Nat} {s : ByteArray} {u : List UInt8} (hB : w.heap.size ≤ rb) (hrb : rb ≠ b) (hc : CurR w6 b s u) (hg : w.grownBy w6 (some b)) (x y : Value) :
    CurR ((w6.setCell ⟨rb, 0, none⟩ x).setCell ⟨rb, 1, none⟩ y) b s u ∧ w.grownBy ((w6.setCell ⟨rb, 0, none⟩ x).setCell ⟨rb, 1, none⟩ y) (some b) :=
  ⟨(hc.grown (grown_set _ rb 0 x) (by intro e; injection e with e; omega)).grown (grown_set _ rb 1 y) (by intro e; injection e with e; omega), grown_setNew (grown_setNew hg hB 0 x) hB 1 y⟩
set_option maxRecDepth 100000 in
set_option maxHeartbeats 4000000 in
theorem param_any (b : Nat) (s : ByteArray) (hs : s.size ≤ 3000) (r : List UInt8) (acc : List Par) (hacc : ∀ p ∈ acc, p.1.size ≤ 3000) (a0 : Option Addr) (len cap pb off : Nat) (hlen : len ≤ 1000) (w : World) (hc : CurR w b s r) (hp : Pars w a0 len pb off acc) (hpb : 0 < len → pb ≠ b) :
    Calls Tryz.prog 80 #[.agg #[.pointer (some ⟨b, 0, none⟩), .string s], .slice a0 len cap] w fun e w' => ParAns b s acc r w.heap.size e w' ∧ w.grownBy w' (some b) := by
  have hbl := hc.lt
  have hrl := hc.len
  have hal := hp.len_eq
  have HACC : Hid (∀ p ∈ acc, p.1.size ≤ 3000) := hacc
  have HPB : Hid (0 < len → pb ≠ b) := hpb
  have hB1 : Below w.heap.size w ((w.alloc (.cells #[.pointer (some ⟨b, 0, none⟩), .string s] 66)).alloc (.cells #[.string ⟨#[]⟩, .string ⟨#[]⟩] 75)) := ((Below.refl _ _).alloc (Nat.le_refl _) _).alloc (by simp) _
  generalize hW0 : ((w.alloc (.cells #[.pointer (some ⟨b, 0, none⟩), .string s] 66)).alloc (.cells #[.string ⟨#[]⟩, .string ⟨#[]⟩] 75)) = W0 at hB1
  have HBT : Hid (∀ w', W0.grownBy w' (some b) → (w'.cell? ⟨w.heap.size, 0, none⟩ = some (.pointer (some ⟨b, 0, none⟩)) ∧ w'.cell? ⟨w.heap.size, 1, none⟩ = some (.string s)) ∧ (w'.cell? ⟨w.heap.size + 1, 0, none⟩ = some (.string ⟨#[]⟩) ∧ w'.cell? ⟨w.heap.size + 1, 1, none⟩ = some (.string ⟨#[]⟩)) ∧ (w'.frozen? ⟨w.heap.size + 1, 0, none⟩ = false ∧ w'.frozen? ⟨w.heap.size + 1, 1, none⟩ = false) ∧ w.heap.size + 1 < w'.heap.size) := by
    intro w' hg
    rw [← hW0] at hg
    exact box_two hg (fun k e => by injection e with e; omega)
  have HC1 : Hid (CurR W0 b s r ∧ w.grownBy W0 (some b) ∧ Pars W0 a0 len pb off acc ∧ w.heap.size + 1 < W0.heap.size) := ⟨hc.below hB1, grown_below hB1 _, hp.below hB1, (HBT.out W0 (grown_drewN _ 0 _)).2.2.2⟩
  obtain ⟨k, HK⟩ : ∃ k, Hid (s.size - r.length = k) := ⟨_, rfl⟩
  have hat := rd_at b s r _ HC1.out.1
  rw [HK.out] at hat
  obtain ⟨⟨hx0, hx1⟩, _, _, _⟩ := HBT.out W0 (grown_drewN _ 0 _)
  clear hc hp hB1 hacc hpb
  go_enter Tryz.func80, Tryz.ntmps80
  go_upto_region 1 with fail
  clear hW0
  go_wp2_with (go_at_call 22; refine hat.mono ?_; rintro e w1 ⟨rfl, hw1⟩; obtain rfl := hw1.symm; clear hw1 hat)
  refine (name_any b s hs r _ HC1.out.1).mono ?_
  rintro e w2 ⟨hn, hg2⟩
  obtain ⟨⟨hx0, hx1⟩, ⟨hr0, hr1⟩, ⟨hf0, hf1⟩, hlt2⟩ := HBT.out w2 hg2
  rcases hn with ⟨n, t, hN, hn3, rfl, hc2⟩ | ⟨hN, ⟨n, rfl⟩, hc2⟩
  · have HN : Hid (nameL r = some (n, t)) := hN
    have HC2 : Hid (CurR w2 b s t ∧ W0.grownBy w2 (some b)) := ⟨hc2, hg2⟩
    clear hN hc2 hg2
    go_wp2_with fail
    refine (rd_blanks b s hs t _ HC2.out.1).mono ?_
    rintro e w3 ⟨rfl, hc3, hg3⟩
    have HC3 : Hid (CurR w3 b s (t.dropWhile blankB) ∧ W0.grownBy w3 (some b)) := ⟨hc3, grown_trans HC2.out.2 hg3⟩
    clear hx0 hx1 hr0 hr1 hf0 hf1 hlt2 hc3 hg3 HC2
    obtain ⟨⟨hx0, hx1⟩, ⟨hr0, hr1⟩, ⟨hf0, hf1⟩, hlt2⟩ := HBT.out w3 HC3.out.2
    go_wp2_with fail
    refine (val_any b s hs _ _ HC3.out.1).mono ?_
    rintro e w4 ⟨hv, hg4⟩
    have HG4 : Hid (W0.grownBy w4 (some b)) := grown_trans HC3.out.2 hg4
    clear hx0 hx1 hr0 hr1 hf0 hf1 hlt2 hg4
    obtain ⟨⟨hx0, hx1⟩, ⟨hr0, hr1⟩, ⟨hf0, hf1⟩, hlt2⟩ := HBT.out w4 HG4.out
    rcases hv with ⟨v, u, hV, hv3, rfl, hc4⟩ | ⟨hV, rfl, hc4⟩
    · have HV : Hid (valueL (t.dropWhile blankB) = some (v, u)) := hV
      have HC4 : Hid (CurR w4 b s u ∧ Pars w4 a0 len pb off acc) := ⟨hc4, HC1.out.2.2.1.grown HG4.out (fun h e => HPB.out h (by injection e))⟩
      clear hV hc4
      go_wp2_with fail
      refine (find_any acc n (fun p hp => Nat.le_trans (HACC.out p hp) (by omega)) (by omega) a0 len cap pb off (by omega) _ HC4.out.2).mono ?_
      rintro e w5 ⟨⟨q, rfl, HQ⟩, hb5⟩
      have HC5 : Hid (CurR w5 b s u ∧ W0.grownBy w5 (some b)) := ⟨HC4.out.1.below hb5, grown_trans HG4.out (grown_below hb5 _)⟩
      clear hx0 hx1 hr0 hr1 hf0 hf1 hlt2 hb5
      obtain ⟨⟨hx0, hx1⟩, ⟨hr0, hr1⟩, ⟨hf0, hf1⟩, hlt2⟩ := HBT.out w5 HC5.out.2
      by_cases htold : toldL acc n = true
      · have HA : Hid (paramL acc r = .error (9, r.length)) := by
          show _ = _
          unfold paramL
          rw [HN.out]
          simp only [HV.out]
          rw [if_pos htold]
        have hq0 : 0 ≤ q := by
          rcases HQ.out with ⟨_, h⟩ | ⟨j, p, h, _, _⟩
          · rw [told_find, h] at htold
            cases htold
          · omega
        go_wp2_with fail
        refine (wrong_any 9 k _).mono ?_
        rintro e w6 ⟨⟨g, rfl, hg0, hg1, hgB, hgl⟩, hbw⟩
        have HAT : Hid (IsAt w6 (.iface 79 (.pointer (some ⟨g, 0, none⟩))) w5.heap.size 9 k) := ⟨g, rfl, hg0, hg1, hgB, hgl⟩
        have HGW : Hid (w.grownBy w6 (some b)) := grown_trans HC1.out.2.1 (grown_trans HC5.out.2 (grown_below hbw _))
        have k0 := (hbw.cell (p := ⟨w.heap.size + 1, 0, none⟩) hlt2).trans hr0
        have k1 := (hbw.cell (p := ⟨w.heap.size + 1, 1, none⟩) hlt2).trans hr1
        have k2 := (hbw.frozen (p := ⟨w.heap.size + 1, 0, none⟩) hlt2).trans hf0
        have k3 := (hbw.frozen (p := ⟨w.heap.size + 1, 1, none⟩) hlt2).trans hf1
        have HLT2 : Hid (w.heap.size + 1 < w5.heap.size) := hlt2
        clear hx0 hx1 hr0 hr1 hf0 hf1 hlt2 hg0 hg1 hbw
        go_wp2
        obtain ⟨e0, e1⟩ := res_end k0 k1 (.string ⟨#[]⟩) (.string ⟨#[]⟩)
        obtain ⟨z1, z2⟩ := fin_err (b := b) (rb := w.heap.size + 1) (Nat.le_succ _) HLT2.out HAT.out HGW.out (.string ⟨#[]⟩) (.string ⟨#[]⟩)
        exact bodyPost_ret (v := .tuple #[.agg #[.string ⟨#[]⟩, .string ⟨#[]⟩], .iface 79 (.pointer (some ⟨g, 0, none⟩))]) (by simp [results, Tryz.f80, go_sem, e0, e1]) rfl ⟨.inr ⟨_, _, _, HA.out, rfl, by rw [HK.out]; exact z1⟩, z2⟩
      · have hq0 : q = -1 := by
          rcases HQ.out with ⟨h, _⟩ | ⟨j, p, h, h2, h3⟩
          · exact h
          · exfalso
            apply htold
            rw [told_find, h3]
            rfl
        subst hq0
        by_cases h16 : (16 : Int) ≤ (len : Int)
        · have HA : Hid (paramL acc r = .error (4, r.length)) := by
            show _ = _
            unfold paramL
            rw [HN.out]
            simp only [HV.out]
            rw [if_neg htold, if_pos (by omega)]
          go_wp2_with fail
          refine (wrong_any 4 k _).mono ?_
          rintro e w6 ⟨⟨g, rfl, hg0, hg1, hgB, hgl⟩, hbw⟩
          have HAT : Hid (IsAt w6 (.iface 79 (.pointer (some ⟨g, 0, none⟩))) w5.heap.size 4 k) := ⟨g, rfl, hg0, hg1, hgB, hgl⟩
          have HGW : Hid (w.grownBy w6 (some b)) := grown_trans HC1.out.2.1 (grown_trans HC5.out.2 (grown_below hbw _))
          have k0 := (hbw.cell (p := ⟨w.heap.size + 1, 0, none⟩) hlt2).trans hr0
          have k1 := (hbw.cell (p := ⟨w.heap.size + 1, 1, none⟩) hlt2).trans hr1
          have k2 := (hbw.frozen (p := ⟨w.heap.size + 1, 0, none⟩) hlt2).trans hf0
          have k3 := (hbw.frozen (p := ⟨w.heap.size + 1, 1, none⟩) hlt2).trans hf1
          have HLT2 : Hid (w.heap.size + 1 < w5.heap.size) := hlt2
          clear hx0 hx1 hr0 hr1 hf0 hf1 hlt2 hg0 hg1 hbw
          go_wp2
          obtain ⟨e0, e1⟩ := res_end k0 k1 (.string ⟨#[]⟩) (.string ⟨#[]⟩)
          obtain ⟨z1, z2⟩ := fin_err (b := b) (rb := w.heap.size + 1) (Nat.le_succ _) HLT2.out HAT.out HGW.out (.string ⟨#[]⟩) (.string ⟨#[]⟩)
          exact bodyPost_ret (v := .tuple #[.agg #[.string ⟨#[]⟩, .string ⟨#[]⟩], .iface 79 (.pointer (some ⟨g, 0, none⟩))]) (by simp [results, Tryz.f80, go_sem, e0, e1]) rfl ⟨.inr ⟨_, _, _, HA.out, rfl, by rw [HK.out]; exact z1⟩, z2⟩
        · have HA : Hid (paramL acc r = .ok ((n, v), u)) := by
            show _ = _
            unfold paramL
            rw [HN.out]
            simp only [HV.out]
            rw [if_neg htold, if_neg (by omega)]
          go_wp2
          obtain ⟨e0, e1⟩ := res_end hr0 hr1 (.string n) (.string v)
          obtain ⟨z1, z2⟩ := fin_ok (rb := w.heap.size + 1) (Nat.le_succ _) (by omega) HC5.out.1 (grown_trans HC1.out.2.1 HC5.out.2) (.string n) (.string v)
          exact bodyPost_ret (v := .tuple #[.agg #[.string n, .string v], .nilIface]) (by simp [results, Tryz.f80, go_sem, e0, e1]) rfl ⟨.inl ⟨(n, v), u, HA.out, hn3, hv3, rfl, z1⟩, z2⟩
    · have HA : Hid (paramL acc r = .error (3, (t.dropWhile blankB).length)) := by
        show _ = _
        unfold paramL
        rw [HN.out]
        simp only [hV]
      have hat2 := rd_at b s _ _ hc4
      obtain ⟨k2', HK2⟩ : ∃ k2, Hid (s.size - (t.dropWhile blankB).length = k2) := ⟨_, rfl⟩
      rw [HK2.out] at hat2
      clear hV hc4
      go_wp2_with (go_at_call 22; refine hat2.mono ?_; rintro e w1 ⟨rfl, hw1⟩; obtain rfl := hw1.symm; clear hw1 hat2)
      refine (wrong_any 3 k2' _).mono ?_
      rintro e w6 ⟨⟨g, rfl, hg0, hg1, hgB, hgl⟩, hbw⟩
      have HAT : Hid (IsAt w6 (.iface 79 (.pointer (some ⟨g, 0, none⟩))) w4.heap.size 3 k2') := ⟨g, rfl, hg0, hg1, hgB, hgl⟩
      have HGW : Hid (w.grownBy w6 (some b)) := grown_trans HC1.out.2.1 (grown_trans HG4.out (grown_below hbw _))
      have k0 := (hbw.cell (p := ⟨w.heap.size + 1, 0, none⟩) hlt2).trans hr0
      have k1 := (hbw.cell (p := ⟨w.heap.size + 1, 1, none⟩) hlt2).trans hr1
      have k2 := (hbw.frozen (p := ⟨w.heap.size + 1, 0, none⟩) hlt2).trans hf0
      have k3 := (hbw.frozen (p := ⟨w.heap.size + 1, 1, none⟩) hlt2).trans hf1
      have HLT2 : Hid (w.heap.size + 1 < w4.heap.size) := hlt2
      clear hx0 hx1 hr0 hr1 hf0 hf1 hlt2 hg0 hg1 hbw
      go_wp2
      obtain ⟨e0, e1⟩ := res_end k0 k1 (.string ⟨#[]⟩) (.string ⟨#[]⟩)
      obtain ⟨z1, z2⟩ := fin_err (b := b) (rb := w.heap.size + 1) (Nat.le_succ _) HLT2.out HAT.out HGW.out (.string ⟨#[]⟩) (.string ⟨#[]⟩)
      exact bodyPost_ret (v := .tuple #[.agg #[.string ⟨#[]⟩, .string ⟨#[]⟩], .iface 79 (.pointer (some ⟨g, 0, none⟩))]) (by simp [results, Tryz.f80, go_sem, e0, e1]) rfl ⟨.inr ⟨_, _, _, HA.out, rfl, by rw [HK2.out]; exact z1⟩, z2⟩
  · have HA : Hid (paramL acc r = .error (3, (nameE r).length)) := by
      show _ = _
      unfold paramL
      rw [hN]
    have HG2 : Hid (W0.grownBy w2 (some b)) := hg2
    have hat2 := rd_at b s _ _ hc2
    obtain ⟨k2', HK2⟩ : ∃ k2, Hid (s.size - (nameE r).length = k2) := ⟨_, rfl⟩
    rw [HK2.out] at hat2
    clear hN hc2 hg2
    go_wp2_with (go_at_call 22; refine hat2.mono ?_; rintro e w1 ⟨rfl, hw1⟩; obtain rfl := hw1.symm; clear hw1 hat2)
    refine (wrong_any 3 k2' _).mono ?_
    rintro e w6 ⟨⟨g, rfl, hg0, hg1, hgB, hgl⟩, hbw⟩
    have HAT : Hid (IsAt w6 (.iface 79 (.pointer (some ⟨g, 0, none⟩))) w2.heap.size 3 k2') := ⟨g, rfl, hg0, hg1, hgB, hgl⟩
    have HGW : Hid (w.grownBy w6 (some b)) := grown_trans HC1.out.2.1 (grown_trans HG2.out (grown_below hbw _))
    have k0 := (hbw.cell (p := ⟨w.heap.size + 1, 0, none⟩) hlt2).trans hr0
    have k1 := (hbw.cell (p := ⟨w.heap.size + 1, 1, none⟩) hlt2).trans hr1
    have k2 := (hbw.frozen (p := ⟨w.heap.size + 1, 0, none⟩) hlt2).trans hf0
    have k3 := (hbw.frozen (p := ⟨w.heap.size + 1, 1, none⟩) hlt2).trans hf1
    have HLT2 : Hid (w.heap.size + 1 < w2.heap.size) := hlt2
    clear hx0 hx1 hr0 hr1 hf0 hf1 hlt2 hg0 hg1 hbw
    go_wp2
    obtain ⟨e0, e1⟩ := res_end k0 k1 (.string ⟨#[]⟩) (.string ⟨#[]⟩)
    obtain ⟨z1, z2⟩ := fin_err (b := b) (rb := w.heap.size + 1) (Nat.le_succ _) HLT2.out HAT.out HGW.out (.string ⟨#[]⟩) (.string ⟨#[]⟩)
    exact bodyPost_ret (v := .tuple #[.agg #[.string ⟨#[]⟩, .string ⟨#[]⟩], .iface 79 (.pointer (some ⟨g, 0, none⟩))]) (by simp [results, Tryz.f80, go_sem, e0, e1]) rfl ⟨.inr ⟨_, _, _, HA.out, rfl, by rw [HK2.out]; exact z1⟩, z2⟩
end Go.Proofs.YtgajhmmildbkfaaGreatDoor

/- One parameter more at a row of parameters that a call owns. -/
namespace Go.Proofs.YtgajhmmildbkfaaGreatDoor
open Go.RowKit

theorem infoP : (Tryz.prog.info? 75).map (fun i => (i.zero, i.size, i.bytes)) = some (some (.agg #[.string ⟨#[]⟩, .string ⟨#[]⟩]), 2, 32) := by kernel_rfl
def parCells : List Par → List Value
  | [] => []
  | p :: r => .string p.1 :: .string p.2 :: parCells r
theorem parCells_app (a b : List Par) : parCells (a ++ b) = parCells a ++ parCells b := by
  induction a with
  | nil => rfl
  | cons p r ih => simp [parCells, ih]
theorem parCells_at : ∀ (ps : List Par) (j : Nat) (p : Par), ps[j]? = some p → (parCells ps)[j * 2]? = some (.string p.1) ∧ (parCells ps)[j * 2 + 1]? = some (.string p.2)
  | [], j, p, h => by simp at h
  | q :: r, 0, p, h => by
    simp at h
    subst h
    exact ⟨rfl, rfl⟩
  | q :: r, j + 1, p, h => by
    have h' : r[j]? = some p := by simpa using h
    have := parCells_at r j p h'
    rw [show (j + 1) * 2 = j * 2 + 1 + 1 by omega]
    simpa [parCells] using this
/-- A value of type []api.Param that owns these, among the blocks from B on. -/
def OwnP (w : World) (B : Nat) (v : Value) (ps : List Par) : Prop := w.ownsRow B 75 2 v ps.length (parCells ps)
theorem OwnP.lt {w : World} {B : Nat} {v : Value} {ps : List Par} (h : OwnP w B v ps) : ∀ k, v.ownBlock = some k → B ≤ k ∧ k < w.heap.size := World.ownsRow.lt h
theorem OwnP.grown {w w' : World} {B b : Nat} {v : Value} {ps : List Par} (h : OwnP w B v ps) (hg : w.grownBy w' (some b)) (hb : b < B) : OwnP w' B v ps := by
  refine World.ownsRow.kept h hg (.inr ?_)
  intro e
  have := (h.lt b e).1
  omega
theorem OwnP.below {w w' : World} {B : Nat} {v : Value} {ps : List Par} (h : OwnP w B v ps) (hb : Below w.heap.size w w') : OwnP w' B v ps := by
  refine World.ownsRow.kept (row := none) h ⟨hb.os, hb.tape, hb.output, hb.size, fun i hi _ => hb.block i hi⟩ ?_
  rcases v.ownBlock with _ | k
  · exact .inl rfl
  · exact .inr (by simp)
theorem ownP_nil (w : World) (B : Nat) : OwnP w B (.slice none 0 0) [] := ⟨rfl, .inl ⟨rfl, rfl⟩⟩
theorem OwnP.pars {w : World} {B : Nat} {v : Value} {ps : List Par} (h : OwnP w B v ps) : ∃ (a : Option Addr) (cap g : Nat), v = .slice a ps.length cap ∧ Pars w a ps.length g 0 ps ∧ (0 < ps.length → B ≤ g) := by
  rcases h.2 with ⟨rfl, h0⟩ | ⟨g, cap, cur, rfl, hBg, hh, _, _, _, ht⟩
  · refine ⟨none, 0, 0, by rw [h0], ⟨rfl, fun h1 => absurd h0 (by omega), fun j x hx => ?_, fun j x hx => ?_⟩, fun h1 => by omega⟩
    · have := (List.getElem?_eq_some_iff.1 hx).1; omega
    · have := (List.getElem?_eq_some_iff.1 hx).1; omega
  · refine ⟨_, cap, g, rfl, ⟨rfl, fun _ => ⟨rfl, (Array.getElem?_eq_some_iff.1 hh).1⟩, fun j x hx => ?_, fun j x hx => ?_⟩, fun _ => hBg⟩
    · have hj := World.ownsRow.cells h (g := g) rfl (j * 2) (.string x.1) (parCells_at ps j x hx).1
      rw [WideShapes.add_plain] at hj
      exact hj
    · have hj := World.ownsRow.cells h (g := g) rfl (j * 2 + 1) (.string x.2) (parCells_at ps j x hx).2
      rw [WideShapes.add_plain] at hj
      rw [Nat.add_assoc]
      exact hj
theorem wp_appp {ops : Array Oper} {rest : List Oper} {o : Oper} {a : Act} {Q : Exit → Act → World → Prop} (hgd : o.guard = none) (s x : Operand)
    (ho : o.op = .call { callee := .builtin .append, args := #[s, x], argTypes := #[36, 36] })
    (B : Nat) (wr : World) (v : Value) (ps : List Par) (n : Nat) (hs : a.eval s = v) (hown : OwnP wr B v ps) (hn : ps.length = n) (hl : n ≤ 100000) (hB : B ≤ wr.heap.size)
    (p : Par) (H : Nat) (hH : wr.heap.size = H) (hx : a.eval x = .slice (some ⟨H, 0, none⟩) 1 1)
    (h : ∀ g cap w', OwnP w' B (.slice (some ⟨g, 0, none⟩) (n + 1) cap) (ps ++ [p]) → (wr.alloc (.cells #[.string p.1, .string p.2] 75)).grownBy w' v.ownBlock → g < w'.heap.size → wpList Tryz.prog ops Q rest (a.put o.dst (.slice (some ⟨g, 0, none⟩) (n + 1) cap)) w') :
    wpList Tryz.prog ops Q (o :: rest) a (wr.alloc (.cells #[.string p.1, .string p.2] 75)) := by
  subst hn hH
  obtain ⟨i0, hi0, hz0, hz1, hz2⟩ := info_parts infoP
  refine wpList_append_lies _ hgd s x 36 ho B 75 i0 (.agg #[.string ⟨#[]⟩, .string ⟨#[]⟩]) 2 32 Tryz.underlying36 hi0 hz0 hz1 hz2 rfl (by omega) v ps.length _ hs (World.ownsRow.alloc hown _) ⟨wr.heap.size, 0, none⟩ 1 1 [.string p.1, .string p.2] hx rfl
    (World.news_of_block (cs := #[.string p.1, .string p.2]) (t := 75) (fr := (0, 0)) (heap_alloc_new wr _)) (by simp [Value.oneCell']) (by omega) (by unfold maxLen; omega) (by omega) (by simp; omega) _ rfl ?_
  intro g cap w' hown1 hgrow _ hlt
  refine h g cap w' ?_ hgrow hlt
  unfold OwnP
  rw [List.length_append, parCells_app]
  exact hown1
end Go.Proofs.YtgajhmmildbkfaaGreatDoor

/- The reader's parameters, by the program. -/
namespace Go.Proofs.YtgajhmmildbkfaaGreatDoor
open Go.RowKit

/-- Names and values that are not too long. -/
def Small (ps : List Par) : Prop := ps.length ≤ 16 ∧ ∀ p ∈ ps, p.1.size ≤ 3000 ∧ p.2.size ≤ 3000
theorem small_snoc {ps : List Par} {p : Par} (h : Small ps) (hl : ps.length < 16) (h1 : p.1.size ≤ 3000) (h2 : p.2.size ≤ 3000) : Small (ps ++ [p]) := by
  refine ⟨by simp; omega, fun q hq => ?_⟩
  rcases List.mem_append.1 hq with hq | hq
  · exact h.2 q hq
  · rw [List.mem_singleton.1 hq]; exact ⟨h1, h2⟩
theorem param_few {acc : List Par} {r u : List UInt8} {p : Par} (h : paramL acc r = .ok (p, u)) : acc.length < 16 := by
  unfold paramL at h
  rcases hn : nameL r with _ | ⟨n, t⟩
  · rw [hn] at h; cases h
  · rw [hn] at h
    rcases hv : valueL (t.dropWhile blankB) with _ | ⟨v, u'⟩
    · simp only [hv] at h; cases h
    · simp only [hv] at h
      split at h
      · cases h
      · split at h
        · cases h
        · omega
/-- What the reader's params answers. -/
def ParsAns (b : Nat) (s : ByteArray) (r : List UInt8) (B : Nat) (e : Ending) (w' : World) : Prop :=
  (∃ (ps : List Par) (u : List UInt8) (v : Value), paramsL (r.length + 1) [] r = .ok (ps, u) ∧ Small ps ∧ e = .returned (.tuple #[v, .nilIface]) ∧ OwnP w' B v ps ∧ CurR w' b s u) ∨
  (∃ (n left : Nat) (v : Value), paramsL (r.length + 1) [] r = .error (n, left) ∧ e = .returned (.tuple #[.slice none 0 0, v]) ∧ IsAt w' v B n ((s.size - left : Nat) : Int))
/-- What is known at the loop's head. -/
def PsAt (r : List UInt8) (more : Bool) (acc : List Par) (r' : List UInt8) : Prop :=
  match more with
  | true => ∃ f, r'.length < f ∧ paramsL (r.length + 1) [] r = paramsL f acc r'
  | false => paramsL (r.length + 1) [] r = .ok (acc, r')
theorem psAt_err {r r' : List UInt8} {acc : List Par} {x : Nat × Nat} (h : PsAt r true acc r') (hp : paramL acc r' = .error x) : paramsL (r.length + 1) [] r = .error x := by
  obtain ⟨f, hf, e⟩ := h
  obtain ⟨g, rfl⟩ : ∃ g, f = g + 1 := ⟨f - 1, by omega⟩
  rw [e, paramsL, hp]
theorem psAt_bad {r r' u : List UInt8} {acc : List Par} {p : Par} (h : PsAt r true acc r') (hp : paramL acc r' = .ok (p, u)) (hs : stopsL (u.dropWhile blankB) = false) : paramsL (r.length + 1) [] r = .error (3, (u.dropWhile blankB).length) := by
  obtain ⟨f, hf, e⟩ := h
  obtain ⟨g, rfl⟩ : ∃ g, f = g + 1 := ⟨f - 1, by omega⟩
  rw [e, paramsL, hp]
  simp only [hs]
  rfl
theorem psAt_next {r r' u : List UInt8} {acc : List Par} {p : Par} (h : PsAt r true acc r') (hp : paramL acc r' = .ok (p, u)) (hs : stopsL (u.dropWhile blankB) = true) : PsAt r (nameL ((u.dropWhile blankB).dropWhile gapB)).isSome (acc ++ [p]) ((u.dropWhile blankB).dropWhile gapB) := by
  obtain ⟨f, hf, e⟩ := h
  obtain ⟨g, rfl⟩ : ∃ g, f = g + 1 := ⟨f - 1, by omega⟩
  have e2 : paramsL (g + 1) acc r' = if (nameL ((u.dropWhile blankB).dropWhile gapB)).isSome then paramsL g (acc ++ [p]) ((u.dropWhile blankB).dropWhile gapB) else .ok (acc ++ [p], (u.dropWhile blankB).dropWhile gapB) := by
    rw [paramsL, hp]
    simp only [hs, if_true]
  rw [e2] at e
  have h1 := paramL_len _ _ _ _ hp
  have h2 := dw_len blankB u
  have h3 := dw_len gapB (u.dropWhile blankB)
  cases hn : (nameL ((u.dropWhile blankB).dropWhile gapB)).isSome
  · rw [hn] at e
    exact e
  · rw [hn] at e
    exact ⟨g, by omega, e⟩
theorem next_len {r' u : List UInt8} {acc : List Par} {p : Par} (hp : paramL acc r' = .ok (p, u)) : ((u.dropWhile blankB).dropWhile gapB).length < r'.length := by
  have h1 := paramL_len _ _ _ _ hp
  have h2 := dw_len blankB u
  have h3 := dw_len gapB (u.dropWhile blankB)
  omega
theorem grown_other {w0 w w' : World} {b : Nat} {row : Option Nat} (h : w0.grownBy w (some b)) (hg : w.grownBy w' row) (hrow : ∀ k, row = some k → w0.heap.size ≤ k) : w0.grownBy w' (some b) :=
  ⟨hg.os.trans h.os, hg.tape.trans h.tape, hg.output.trans h.output, Nat.le_trans h.size hg.size, fun i hi hr => (hg.block i (Nat.lt_of_lt_of_le hi h.size) (fun e => by have := hrow i e.symm; omega)).trans (h.block i hi hr)⟩
set_option maxRecDepth 100000 in
set_option maxHeartbeats 4000000 in
theorem params_any (b : Nat) (s : ByteArray) (hs : s.size ≤ 3000) (r : List UInt8) (w : World) (hc : CurR w b s r) :
    Calls Tryz.prog 56 #[.agg #[.pointer (some ⟨b, 0, none⟩), .string s]] w fun e w' => ParsAns b s r w.heap.size e w' ∧ w.grownBy w' (some b) := by
  have hbl := hc.lt
  have hB1 : Below w.heap.size w (w.alloc (.cells #[.pointer (some ⟨b, 0, none⟩), .string s] 66)) := (Below.refl _ _).alloc (Nat.le_refl _) _
  have hne : some w.heap.size ≠ some b := by intro e; injection e with e; omega
  generalize hW0 : (w.alloc (.cells #[.pointer (some ⟨b, 0, none⟩), .string s] 66)) = W0 at hB1
  have HBT : Hid (∀ w', W0.grownBy w' (some b) → w'.cell? ⟨w.heap.size, 0, none⟩ = some (.pointer (some ⟨b, 0, none⟩)) ∧ w'.cell? ⟨w.heap.size, 1, none⟩ = some (.string s)) := fun w' hg => box_reader (by rw [hW0]; exact hg) hne
  have HC1 : Hid (CurR W0 b s r ∧ w.grownBy W0 (some b) ∧ W0.heap.size = w.heap.size + 1) := ⟨hc.below hB1, grown_below hB1 _, by rw [← hW0]; simp⟩
  clear hc hB1
  go_enter Tryz.func56, Tryz.ntmps56
  go_wp2
  clear hW0
  go_loopg [4, 5] (r.length + 1) (fun gh v m wr => ∃ (more : Bool) (acc : List Par) (a : Option Addr) (n cap : Nat) (r' : List UInt8), (if more then r'.length + 1 else 0) ≤ gh ∧ v = .slice a n cap ∧ n ≤ 16 ∧ m = .bool more ∧ Hid (n = acc.length ∧ PsAt r more acc r' ∧ Small acc ∧ OwnP wr (w.heap.size + 1) (.slice a n cap) acc ∧ CurR wr b s r' ∧ W0.grownBy wr (some b)))
  case atStart => exact ⟨true, [], none, 0, 0, r, by simp, rfl, by omega, rfl, ⟨rfl, ⟨r.length + 1, by omega, rfl⟩, ⟨by simp, fun p hp => by cases hp⟩, ownP_nil _ _, HC1.out.1, grown_drewN _ 0 _⟩⟩
  case round =>
    obtain ⟨more, acc, a, n, cap, r', hgh, rfl, hn, rfl, HI⟩ := hrel
    cases more
    · have HA : Hid (paramsL (r.length + 1) [] r = .ok (acc, r')) := HI.out.2.1
      go_wp2
      go_ret2
      exact ⟨.inl ⟨acc, r', _, HA, HI.out.2.2.1, rfl, World.ownsRow.mono HI.out.2.2.2.1 (by omega), HI.out.2.2.2.2.1⟩, grown_trans HC1.out.2.1 HI.out.2.2.2.2.2⟩
    · obtain ⟨hx0, hx1⟩ := HBT.out wr HI.out.2.2.2.2.2
      obtain ⟨a', cap', g, hv, hP, hBg⟩ := HI.out.2.2.2.1.pars
      injection hv with hv1 hv2 hv3
      subst hv1 hv3
      have HP : Hid (Pars wr a n g 0 acc ∧ (0 < n → g ≠ b)) := by rw [HI.out.1]; exact ⟨hP, fun h => by have := hBg h; omega⟩
      clear hP hBg hv2
      go_wp2_with fail
      refine (param_any b s hs r' acc (fun p hp => (HI.out.2.2.1.2 p hp).1) a n cap g 0 (by omega) _ HI.out.2.2.2.2.1 HP.out.1 HP.out.2).mono ?_
      rintro e w2 ⟨hpa, hg2⟩
      have HG2 : Hid (W0.grownBy w2 (some b) ∧ OwnP w2 (w.heap.size + 1) (.slice a n cap) acc) := ⟨grown_trans HI.out.2.2.2.2.2 hg2, HI.out.2.2.2.1.grown hg2 (by omega)⟩
      have hwz : w.heap.size + 1 ≤ w2.heap.size := by have := HG2.out.1.size; have := HC1.out.2.2; omega
      have HWR : Hid (w.heap.size ≤ wr.heap.size) := by have := HI.out.2.2.2.2.2.size; have := HC1.out.2.2; show _ ≤ _; omega
      clear hg2 hx0 hx1
      rcases hpa with ⟨p, u, hpl, hp1, hp2, rfl, hc2⟩ | ⟨en, left, ev, hpl, rfl, hat⟩
      · have HPL : Hid (paramL acc r' = .ok (p, u)) := hpl
        have hacc16 : n < 16 := by have := param_few hpl; have := HI.out.1; omega
        have HS2 : Hid (Small (acc ++ [p])) := small_snoc HI.out.2.2.1 (param_few hpl) hp1 hp2
        have hb3 : Below w2.heap.size w2 (w2.alloc (.cells #[.string p.1, .string p.2] 75)) := (Below.refl _ _).alloc (Nat.le_refl _) _
        have HG3 : Hid (W0.grownBy (w2.alloc (.cells #[.string p.1, .string p.2] 75)) (some b) ∧ OwnP (w2.alloc (.cells #[.string p.1, .string p.2] 75)) (w.heap.size + 1) (.slice a n cap) acc ∧ CurR (w2.alloc (.cells #[.string p.1, .string p.2] 75)) b s u) := ⟨grown_trans HG2.out.1 (grown_below hb3 _), HG2.out.2.below hb3, hc2.below hb3⟩
        clear hpl hc2 hb3
        go_wp2_with (at_builtin; refine wp_appp rfl _ _ rfl (w.heap.size + 1) (w2.alloc (.cells #[.string p.1, .string p.2] 75)) (.slice a n cap) acc n rfl HG3.out.2.1 HI.out.1.symm (by omega) (by simp; omega) p (w2.heap.size + 1) (by simp) rfl ?_; intro g4 cap4 w4 hown4 hg4 hlt4; have HO4 : Hid (OwnP w4 (w.heap.size + 1) (.slice (some ⟨g4, 0, none⟩) (n + 1) cap4) (acc ++ [p]) ∧ CurR w4 b s u ∧ W0.grownBy w4 (some b)) := ⟨hown4, (HG3.out.2.2.below ((Below.refl _ _).alloc (Nat.le_refl _) _)).grown hg4 (fun e => by have := (HG3.out.2.1.lt _ e.symm).1; omega), grown_other (grown_trans HG3.out.1 (grown_alloc _ _ _)) hg4 (fun k e => by have := (HG3.out.2.1.lt _ e).1; have := HC1.out.2.2; omega)⟩; clear hown4 hg4 hlt4; obtain ⟨hy0, hy1⟩ := HBT.out w4 HO4.out.2.2)
        refine (rd_blanks b s hs u _ HO4.out.2.1).mono ?_
        rintro e w5 ⟨rfl, hc5, hg5⟩
        have HO5 : Hid (OwnP w5 (w.heap.size + 1) (.slice (some ⟨g4, 0, none⟩) (n + 1) cap4) (acc ++ [p]) ∧ CurR w5 b s (u.dropWhile blankB) ∧ W0.grownBy w5 (some b)) := ⟨HO4.out.1.grown hg5 (by omega), hc5, grown_trans HO4.out.2.2 hg5⟩
        clear hc5 hg5 HO4 hy0 hy1
        obtain ⟨hy0, hy1⟩ := HBT.out w5 HO5.out.2.2
        go_wp2_with fail
        refine (over_at b s _ _ HO5.out.2.1).mono ?_
        rintro e w6 ⟨rfl, hc6, hg6⟩
        have HO6 : Hid (OwnP w6 (w.heap.size + 1) (.slice (some ⟨g4, 0, none⟩) (n + 1) cap4) (acc ++ [p]) ∧ CurR w6 b s (u.dropWhile blankB) ∧ W0.grownBy w6 (some b)) := ⟨HO5.out.1.grown hg6 (by omega), hc6, grown_trans HO5.out.2.2 hg6⟩
        clear hc6 hg6 HO5 hy0 hy1
        obtain ⟨hy0, hy1⟩ := HBT.out w6 HO6.out.2.2
        have HW6 : Hid (w.heap.size ≤ w6.heap.size) := by have := HO6.out.2.2.size; have := HC1.out.2.2; show _ ≤ _; omega
        cases hst : stopsL (u.dropWhile blankB)
        · have HA : Hid (paramsL (r.length + 1) [] r = .error (3, (u.dropWhile blankB).length)) := psAt_bad HI.out.2.1 HPL.out hst
          have hat := rd_at b s _ _ HO6.out.2.1
          obtain ⟨k, HK⟩ : ∃ k, Hid (s.size - (u.dropWhile blankB).length = k) := ⟨_, rfl⟩
          rw [HK.out] at hat
          go_wp2_with (go_at_call 22; refine hat.mono ?_; rintro e w1 ⟨rfl, hw1⟩; obtain rfl := hw1.symm; clear hw1 hat)
          refine (wrong_any 3 k _).mono ?_
          rintro e w7 ⟨⟨g, rfl, hg0, hg1, hgB, hgl⟩, hbw⟩
          have HAT : Hid (IsAt w7 (.iface 79 (.pointer (some ⟨g, 0, none⟩))) w6.heap.size 3 k) := ⟨g, rfl, hg0, hg1, hgB, hgl⟩
          have HG7 : Hid (w.grownBy w7 (some b)) := grown_trans HC1.out.2.1 (grown_trans HO6.out.2.2 (grown_below hbw _))
          clear hg0 hg1 hbw
          go_wp2
          go_ret2
          exact ⟨.inr ⟨3, _, _, HA, rfl, by rw [HK.out]; exact HAT.out.mono HW6.out⟩, HG7⟩
        · have HN : Hid (PsAt r (nameL ((u.dropWhile blankB).dropWhile gapB)).isSome (acc ++ [p]) ((u.dropWhile blankB).dropWhile gapB)) := psAt_next HI.out.2.1 HPL.out hst
          have HNL : Hid (((u.dropWhile blankB).dropWhile gapB).length < r'.length) := next_len HPL.out
          clear hst
          go_wp2_with fail
          refine (gaps_any b s hs _ _ HO6.out.2.1).mono ?_
          rintro e w7 ⟨rfl, hc7, hg7⟩
          have HO7 : Hid (OwnP w7 (w.heap.size + 1) (.slice (some ⟨g4, 0, none⟩) (n + 1) cap4) (acc ++ [p]) ∧ CurR w7 b s ((u.dropWhile blankB).dropWhile gapB) ∧ W0.grownBy w7 (some b)) := ⟨HO6.out.1.grown hg7 (by omega), hc7, grown_trans HO6.out.2.2 hg7⟩
          clear hc7 hg7 HO6 hy0 hy1 HW6
          obtain ⟨hy0, hy1⟩ := HBT.out w7 HO7.out.2.2
          go_wp2_with fail
          refine (nameAhead_any b s hs _ _ HO7.out.2.1).mono ?_
          rintro e w8 ⟨rfl, hc8, hg8⟩
          have HO8 : Hid (OwnP w8 (w.heap.size + 1) (.slice (some ⟨g4, 0, none⟩) (n + 1) cap4) (acc ++ [p]) ∧ CurR w8 b s ((u.dropWhile blankB).dropWhile gapB) ∧ W0.grownBy w8 (some b)) := ⟨HO7.out.1.grown hg8 (by omega), hc8, grown_trans HO7.out.2.2 hg8⟩
          clear hc8 hg8 HO7 hy0 hy1
          obtain ⟨m, HM⟩ : ∃ m, Hid ((nameL ((u.dropWhile blankB).dropWhile gapB)).isSome = m) := ⟨_, rfl⟩
          rw [HM.out] at HN ⊢
          have HGH : Hid (r'.length + 1 ≤ gk) := by show _ ≤ _; simpa using hgh
          go_wp2
          go_roundg (((u.dropWhile blankB).dropWhile gapB).length + 1)
          case measure => have := HNL.out; have := HGH.out; omega
          case rel => exact ⟨m, acc ++ [p], _, n + 1, cap4, _, by split <;> omega, rfl, by omega, rfl, ⟨by rw [List.length_append, ← HI.out.1]; rfl, HN.out, HS2.out, HO8.out.1, HO8.out.2.1, HO8.out.2.2⟩⟩
      · have HA : Hid (paramsL (r.length + 1) [] r = .error (en, left)) := psAt_err HI.out.2.1 hpl
        obtain ⟨eg, rfl, eg0, eg1, egB, egl⟩ := hat
        have HAT : Hid (IsAt w2 (.iface 79 (.pointer (some ⟨eg, 0, none⟩))) wr.heap.size en ((s.size - left : Nat) : Int)) := ⟨eg, rfl, eg0, eg1, egB, egl⟩
        clear hpl eg0 eg1
        go_wp2
        go_ret2
        exact ⟨.inr ⟨en, left, _, HA, rfl, (HAT.out.below ((Below.refl _ _).alloc (Nat.le_refl _) _)).mono HWR.out⟩, grown_trans HC1.out.2.1 (grown_trans HG2.out.1 (grown_alloc _ _ _))⟩
end Go.Proofs.YtgajhmmildbkfaaGreatDoor

/- The library's contract on beginnings, laid at this program's numbers. -/
namespace Go.Proofs.YtgajhmmildbkfaaGreatDoor
open Go.Shelf Go.RowKit
def lays99_ren : Go.Shelf.Ren := ⟨fun | 99 => 61 | 206 => 93 | n => n, fun | 9 => 9 | 4 => 4 | 3 => 3 | n => n, fun | n => n⟩
theorem lays99 : Go.Proofs.Lays.n99 Tryz.prog lays99_ren := {
  mixed := by kernel_rfl
  f99 := Tryz.func61.trans (congrArg some (by kernel_rfl))
  f206 := Tryz.func93.trans (congrArg some (by kernel_rfl))
  t3 := Tryz.underlying3
  a3 := Tryz.isAgg3
  z3 := Tryz.sizeOf3
  v3 := Tryz.zeroValue3
  t4 := Tryz.underlying4
  a4 := Tryz.isAgg4
  z4 := Tryz.sizeOf4
  v4 := Tryz.zeroValue4
  t9 := Tryz.underlying9
  a9 := Tryz.isAgg9
  z9 := Tryz.sizeOf9
  v9 := Tryz.zeroValue9 }
end Go.Proofs.YtgajhmmildbkfaaGreatDoor

/- The library's contracts on beginnings and on blanks about a text, laid at this program's numbers. -/
namespace Go.Proofs.YtgajhmmildbkfaaGreatDoor
open Go.Shelf Go.RowKit
def lays161_ren : Go.Shelf.Ren := ⟨fun | 161 => 77 | 231 => 104 | 227 => 105 | 233 => 106 | 235 => 107 | 228 => 129 | 197 => 130 | 151 => 131 | 260 => 140 | 152 => 141 | 137 => 74 | 119 => 144 | 224 => 126 | 225 => 125 | 217 => 101 | 266 => 128 | n => n, fun | 9 => 9 | 4 => 4 | 3 => 3 | 5 => 5 | 117 => 145 | 116 => 144 | 0 => 0 | 124 => 148 | 105 => 167 | 21 => 21 | 119 => 177 | 46 => 97 | 139 => 180 | 138 => 179 | n => n, fun | 3 => 8 | 4 => 9 | n => n⟩
theorem lays161 : Go.Proofs.Lays.n161 Tryz.prog lays161_ren := {
  mixed := by kernel_rfl
  f119 := Tryz.func144.trans (congrArg some (by kernel_rfl))
  f137 := Tryz.func74.trans (congrArg some (by kernel_rfl))
  f151 := Tryz.func131.trans (congrArg some (by kernel_rfl))
  f152 := Tryz.func141.trans (congrArg some (by kernel_rfl))
  f161 := Tryz.func77.trans (congrArg some (by kernel_rfl))
  f197 := Tryz.func130.trans (congrArg some (by kernel_rfl))
  f217 := Tryz.func101.trans (congrArg some (by kernel_rfl))
  f224 := Tryz.func126.trans (congrArg some (by kernel_rfl))
  f225 := Tryz.func125.trans (congrArg some (by kernel_rfl))
  f227 := Tryz.func105.trans (congrArg some (by kernel_rfl))
  f228 := Tryz.func129.trans (congrArg some (by kernel_rfl))
  f231 := Tryz.func104.trans (congrArg some (by kernel_rfl))
  f233 := Tryz.func106.trans (congrArg some (by kernel_rfl))
  f235 := Tryz.func107.trans (congrArg some (by kernel_rfl))
  f260 := Tryz.func140.trans (congrArg some (by kernel_rfl))
  f266 := Tryz.func128.trans (congrArg some (by kernel_rfl))
  t0 := Tryz.underlying0
  a0 := Tryz.isAgg0
  z0 := Tryz.sizeOf0
  v0 := Tryz.zeroValue0
  t3 := Tryz.underlying3
  a3 := Tryz.isAgg3
  z3 := Tryz.sizeOf3
  v3 := Tryz.zeroValue3
  t4 := Tryz.underlying4
  a4 := Tryz.isAgg4
  z4 := Tryz.sizeOf4
  v4 := Tryz.zeroValue4
  t5 := Tryz.underlying5
  a5 := Tryz.isAgg5
  z5 := Tryz.sizeOf5
  v5 := Tryz.zeroValue5
  t9 := Tryz.underlying9
  a9 := Tryz.isAgg9
  z9 := Tryz.sizeOf9
  v9 := Tryz.zeroValue9
  t21 := Tryz.underlying21
  a21 := Tryz.isAgg21
  z21 := Tryz.sizeOf21
  v21 := Tryz.zeroValue21
  t46 := Tryz.underlying97
  a46 := Tryz.isAgg97
  z46 := Tryz.sizeOf97
  v46 := Tryz.zeroValue97
  t105 := Tryz.underlying167
  a105 := Tryz.isAgg167
  z105 := Tryz.sizeOf167
  v105 := Tryz.zeroValue167
  t116 := Tryz.underlying144
  a116 := Tryz.isAgg144
  z116 := Tryz.sizeOf144
  t117 := Tryz.underlying145
  a117 := Tryz.isAgg145
  z117 := Tryz.sizeOf145
  v117 := Tryz.zeroValue145
  t119 := Tryz.underlying177
  a119 := Tryz.isAgg177
  z119 := Tryz.sizeOf177
  t124 := Tryz.underlying148
  a124 := Tryz.isAgg148
  z124 := Tryz.sizeOf148
  v124 := Tryz.zeroValue148
  t138 := Tryz.underlying179
  a138 := Tryz.isAgg179
  z138 := Tryz.sizeOf179
  v138 := Tryz.zeroValue179
  t139 := Tryz.underlying180
  a139 := Tryz.isAgg180
  z139 := Tryz.sizeOf180
  v139 := Tryz.zeroValue180
  g3 := by kernel_rfl
  g4 := by kernel_rfl }
end Go.Proofs.YtgajhmmildbkfaaGreatDoor

/- The reader's Token, by the program. -/
namespace Go.Proofs.YtgajhmmildbkfaaGreatDoor
open Go.RowKit Go.Shelf

abbrev tkset : ByteArray := ⟨([97, 98, 99, 100, 101, 102, 103, 104, 105, 106, 107, 108, 109, 110, 111, 112, 113, 114, 115, 116, 117, 118, 119, 120, 121, 122, 65, 66, 67, 68, 69, 70, 71, 72].append [73, 74, 75, 76, 77, 78, 79, 80, 81, 82, 83, 84, 85, 86, 87, 88, 89, 90, 48, 49, 50, 51, 52, 53, 54, 55, 56, 57, 45, 46, 95, 126, 43, 47] : List UInt8).toArray⟩
theorem tk_all : ∀ c : UInt8, tkset.data.toList.contains c = tkB c := by
  intro c
  have : ∀ n : Fin 256, tkset.data.toList.contains (UInt8.ofNat n.1) = tkB (UInt8.ofNat n.1) := by decide +kernel
  have h := this ⟨c.toNat, c.toNat_lt⟩
  simpa using h
theorem trim_tk (l : List UInt8) : Lib.trimLeftS l tkset.data.toList = l.dropWhile tkB := by
  unfold Lib.trimLeftS
  congr 1
  funext c
  exact tk_all c
theorem trim_eq (l : List UInt8) : Lib.trimLeftS l [61] = l.dropWhile eqB := by
  unfold Lib.trimLeftS
  congr 1
  funext c
  unfold eqB
  simp
  rfl
theorem trimTk_any (r : ByteArray) (w : World) : Calls Tryz.prog 77 #[.string r, .string tkset] w fun e w' => e = .returned (.string (bs (r.data.toList.dropWhile tkB))) ∧ Below w.heap.size w w' := by
  have h := Any.strings_TrimLeft_laid lays161 (by kernel_rfl) r tkset w (by decide) (ascii_of_all (by decide +kernel))
  rw [trim_tk] at h
  exact h
theorem trimEq_any (r : ByteArray) (w : World) : Calls Tryz.prog 77 #[.string r, .string ⟨#[61]⟩] w fun e w' => e = .returned (.string (bs (r.data.toList.dropWhile eqB))) ∧ Below w.heap.size w w' := by
  have h := Any.strings_TrimLeft_laid lays161 (by kernel_rfl) r ⟨#[61]⟩ w (by decide) (ascii_of_all (by decide))
  have e : (⟨#[61]⟩ : ByteArray).data.toList = [61] := rfl
  rw [e, trim_eq] at h
  exact h
/-- What the reader's token answers. -/
def TkAns (b : Nat) (s : ByteArray) (r : List UInt8) (e : Ending) (w' : World) : Prop :=
  (∃ (t : ByteArray) (u : List UInt8), tokenL r = some (t, u) ∧ t.size ≠ 0 ∧ t.size ≤ 3000 ∧ e = .returned (.string t) ∧ CurR w' b s u) ∨
  (tokenL r = none ∧ e = .returned (.string ⟨#[]⟩) ∧ CurR w' b s r)
set_option maxRecDepth 100000 in
set_option maxHeartbeats 2000000 in
theorem token_any (b : Nat) (s : ByteArray) (hs : s.size ≤ 3000) (r : List UInt8) (w : World) (hc : CurR w b s r) :
    Calls Tryz.prog 55 #[.agg #[.pointer (some ⟨b, 0, none⟩), .string s]] w fun e w' => TkAns b s r e w' ∧ w.grownBy w' (some b) := by
  have hbl := hc.lt
  have hrl := hc.len
  have HSF : Hid (r <:+ s.data.toList) := hc.2
  have hrest := hc.rest
  have HC1 : Hid (CurR (w.alloc (.cells #[.pointer (some ⟨b, 0, none⟩), .string s] 66)) b s r) := hc.below ((Below.refl _ _).alloc (Nat.le_refl _) _)
  have HG1 : Hid (w.grownBy (w.alloc (.cells #[.pointer (some ⟨b, 0, none⟩), .string s] 66)) (some b)) := grown_alloc _ _ _
  have hne : some w.heap.size ≠ some b := by intro e; injection e with e; omega
  obtain ⟨k, HK⟩ : ∃ k, Hid (s.size - r.length = k) := ⟨_, rfl⟩
  have hk : k ≤ s.size := by rw [← HK.out]; omega
  have hkz : k + r.length = s.size := by rw [← HK.out]; omega
  obtain ⟨x, HX⟩ : ∃ x : ByteArray, Hid (s.extract k s.size = x) := ⟨_, rfl⟩
  have HXD : Hid (x.data.toList = r) := by
    show _ = _
    rw [← HX.out, from_data, ← HK.out]
    exact hrest
  have hxz : x.size = r.length := by rw [← len_data, HXD.out]
  obtain ⟨y, HY⟩ : ∃ y : ByteArray, Hid (bs (r.dropWhile tkB) = y) := ⟨_, rfl⟩
  obtain ⟨z, HZ⟩ : ∃ z : ByteArray, Hid (bs ((r.dropWhile tkB).dropWhile eqB) = z) := ⟨_, rfl⟩
  have hyz : y.size = (r.dropWhile tkB).length := by rw [← HY.out, bs_size]
  have hzz : z.size = ((r.dropWhile tkB).dropWhile eqB).length := by rw [← HZ.out, bs_size]
  have hle1 := dw_len tkB r
  have hle2 := dw_len eqB (r.dropWhile tkB)
  have htk : ∀ w, Calls Tryz.prog 77 #[.string x, .string tkset] w fun e w' => e = .returned (.string y) ∧ Below w.heap.size w w' := fun w => by
    have h := trimTk_any x w
    rw [HXD.out, HY.out] at h
    exact h
  have heq : ∀ w, Calls Tryz.prog 77 #[.string y, .string ⟨#[61]⟩] w fun e w' => e = .returned (.string z) ∧ Below w.heap.size w w' := fun w => by
    have h := trimEq_any y w
    rw [← HY.out, bs_data, HZ.out, HY.out] at h
    exact h
  have hat := rd_at b s r _ HC1.out
  rw [HK.out] at hat
  have HLE : Hid (y.size = (r.dropWhile tkB).length ∧ z.size = ((r.dropWhile tkB).dropWhile eqB).length ∧ x.size = r.length ∧ k + r.length = s.size) := ⟨hyz, hzz, hxz, hkz⟩
  have hyx : y.size ≤ x.size := by omega
  have hzy : z.size ≤ y.size := by omega
  have hkS : (k : Int) ≤ (s.size : Int) := by omega
  have hxs : x.size ≤ 3000 := by omega
  clear hc hrest hyz hzz hxz hkz hle1 hle2 hrl
  go_enter Tryz.func55, Tryz.ntmps55
  go_wp2_with (go_at_call 22; refine hat.mono ?_; rintro e w1 ⟨rfl, hw1⟩; obtain rfl := hw1.symm; clear hw1 hat)
  rw [HX.out]
  refine (htk _).mono ?_
  rintro e w2 ⟨rfl, hb2⟩
  have HC2 : Hid (CurR w2 b s r ∧ (w.alloc (.cells #[.pointer (some ⟨b, 0, none⟩), .string s] 66)).grownBy w2 (some b)) := ⟨HC1.out.below hb2, grown_below hb2 _⟩
  clear hb2 HC1 htk
  by_cases heqz : y.size = x.size
  · have HN : Hid (tokenL r = none) := by
      show _ = _
      unfold tokenL
      rw [if_neg]
      rintro ⟨h1, _⟩
      have := HLE.out
      omega
    have heq' : ((y.size : Int) == (x.size : Int)) = true := by rw [heqz]; simp
    go_wp2
    go_ret
    exact ⟨.inr ⟨HN, rfl, HC2.out.1⟩, grown_trans HG1.out HC2.out.2⟩
  · have heq' : ((y.size : Int) == (x.size : Int)) = false := beq_eq_false_iff_ne.2 (by omega)
    have HLT : Hid ((r.dropWhile tkB).length < r.length) := by
      show _ < _
      have := HLE.out
      omega
    clear heqz
    go_wp2_with (go_at_call 77; refine (heq _).mono ?_; rintro e w3 ⟨rfl, hb3⟩; have HC3 : Hid (CurR w3 b s r ∧ (w.alloc (.cells #[.pointer (some ⟨b, 0, none⟩), .string s] 66)).grownBy w3 (some b)) := ⟨HC2.out.1.below hb3, grown_trans HC2.out.2 (grown_below hb3 _)⟩; obtain ⟨hx0, hx1⟩ := box_reader HC3.out.2 hne; clear hb3)
    have HSF2 : Hid ((r.dropWhile tkB).dropWhile eqB <:+ s.data.toList) := ((dw_suff _ _).trans (dw_suff _ _)).trans HSF.out
    refine (rd_go b s r _ HSF2.out _ (by have := HLE.out; omega) _ HC3.out.1).mono ?_
    rintro e w4 ⟨rfl, hc4, hg4⟩
    have HC4 : Hid (CurR w4 b s ((r.dropWhile tkB).dropWhile eqB) ∧ (w.alloc (.cells #[.pointer (some ⟨b, 0, none⟩), .string s] 66)).grownBy w4 (some b)) := ⟨hc4, grown_trans HC3.out.2 hg4⟩
    obtain ⟨hy0, hy1⟩ := box_reader HC4.out.2 hne
    clear hc4 hg4 HC3 hx0 hx1 HC2
    go_wp2_with fail
    refine (rd_blanks b s hs _ _ HC4.out.1).mono ?_
    rintro e w5 ⟨rfl, hc5, hg5⟩
    have HC5 : Hid (CurR w5 b s (((r.dropWhile tkB).dropWhile eqB).dropWhile blankB) ∧ (w.alloc (.cells #[.pointer (some ⟨b, 0, none⟩), .string s] 66)).grownBy w5 (some b)) := ⟨hc5, grown_trans HC4.out.2 hg5⟩
    obtain ⟨hx0, hx1⟩ := box_reader HC5.out.2 hne
    clear hc5 hg5 HC4 hy0 hy1
    go_wp2_with fail
    refine (over_at b s _ _ HC5.out.1).mono ?_
    rintro e w6 ⟨rfl, hc6, hg6⟩
    have HC6 : Hid (CurR w6 b s (((r.dropWhile tkB).dropWhile eqB).dropWhile blankB) ∧ (w.alloc (.cells #[.pointer (some ⟨b, 0, none⟩), .string s] 66)).grownBy w6 (some b)) := ⟨hc6, grown_trans HC5.out.2 hg6⟩
    obtain ⟨hy0, hy1⟩ := box_reader HC6.out.2 hne
    clear hc6 hg6 HC5 hx0 hx1
    cases hst : stopsL (((r.dropWhile tkB).dropWhile eqB).dropWhile blankB)
    · have HN : Hid (tokenL r = none) := by
        show _ = _
        unfold tokenL
        rw [if_neg]
        rintro ⟨_, h1⟩
        rw [hst] at h1
        cases h1
      go_wp2_with fail
      refine (rd_go b s _ r HSF.out _ (by have := HLE.out; omega) _ HC6.out.1).mono ?_
      rintro e w7 ⟨rfl, hc7, hg7⟩
      have HC7 : Hid (CurR w7 b s r ∧ w.grownBy w7 (some b)) := ⟨hc7, grown_trans HG1.out (grown_trans HC6.out.2 hg7)⟩
      clear hc7 hg7
      go_wp2
      go_ret
      exact ⟨.inr ⟨HN, rfl, HC7.out.1⟩, HC7.out.2⟩
    · obtain ⟨m, hm⟩ : ∃ m : Nat, m = x.size - z.size := ⟨_, rfl⟩
      have HM : Hid (m = x.size - z.size) := hm
      have hmi : (x.size : Int) - (z.size : Int) = (m : Int) := by omega
      rw [hmi]
      obtain ⟨t, HT⟩ : ∃ t : ByteArray, Hid (x.extract 0 m = t) := ⟨_, rfl⟩
      have htz : t.size = m := by
        rw [← HT.out]
        simp
        omega
      have HN : Hid (tokenL r = some (t, ((r.dropWhile tkB).dropWhile eqB).dropWhile blankB)) := by
        show _ = _
        unfold tokenL
        rw [if_pos ⟨HLT.out, hst⟩]
        have : bs (r.take (r.length - ((r.dropWhile tkB).dropWhile eqB).length)) = t := by
          rw [← HT.out]
          refine (bs_of ?_).symm
          rw [upto_data, HXD.out, HM.out]
          have := HLE.out
          congr 1
          omega
        rw [this]
      have HT0 : Hid (t.size ≠ 0 ∧ t.size ≤ 3000) := by
        have := HLE.out
        have := HLT.out
        have := dw_len eqB (r.dropWhile tkB)
        exact ⟨by omega, by omega⟩
      have hmx : (m : Int) ≤ (x.size : Int) := by omega
      have ht3 : t.size ≤ 3000 := HT0.out.2
      clear hm htz hmi
      go_wp2_with fail
      rw [HT.out]
      refine (clone_any t (by omega) _).mono ?_
      rintro e w7 ⟨rfl, hb7⟩
      have HC7 : Hid (CurR w7 b s (((r.dropWhile tkB).dropWhile eqB).dropWhile blankB) ∧ w.grownBy w7 (some b)) := ⟨HC6.out.1.below hb7, grown_trans HG1.out (grown_trans HC6.out.2 (grown_below hb7 _))⟩
      clear hb7
      go_wp2
      go_ret
      exact ⟨.inl ⟨t, _, HN, HT0.out.1, HT0.out.2, rfl, HC7.out.1⟩, HC7.out.2⟩
end Go.Proofs.YtgajhmmildbkfaaGreatDoor

/- The reader's challenge, by the program. -/
namespace Go.Proofs.YtgajhmmildbkfaaGreatDoor
open Go.RowKit

/-- The reader's box, and the result's. -/
structure RdF (w wi : World) (b : Nat) (s : ByteArray) : Prop where
  rd0 : wi.cell? ⟨w.heap.size, 0, none⟩ = some (.pointer (some ⟨b, 0, none⟩))
  rd1 : wi.cell? ⟨w.heap.size, 1, none⟩ = some (.string s)
  res : wi.heap[w.heap.size + 1]? = some (.cells #[.string ⟨#[]⟩, .string ⟨#[]⟩, .slice none 0 0] 38 (0, 0))
theorem RdF.grown {w wi wj : World} {b : Nat} {s : ByteArray} {row : Option Nat} (h : RdF w wi b s) (hg : wi.grownBy wj row) (hr : ∀ k, row = some k → k ≠ w.heap.size ∧ k ≠ w.heap.size + 1) : RdF w wj b s := by
  have h1 : some w.heap.size ≠ row := fun e => (hr _ e.symm).1 rfl
  have h2 : some (w.heap.size + 1) ≠ row := fun e => (hr _ e.symm).2 rfl
  exact ⟨hg.cell h.rd0 h1, hg.cell h.rd1 h1, (hg.block _ (Array.getElem?_eq_some_iff.1 h.res).1 h2).trans h.res⟩
theorem res_cells {wi : World} {g : Nat} {v0 v1 v2 : Value} {T : TypeId} (h : wi.heap[g]? = some (.cells #[v0, v1, v2] T (0, 0))) :
    (wi.cell? ⟨g, 0, none⟩ = some v0 ∧ wi.cell? ⟨g, 1, none⟩ = some v1 ∧ wi.cell? ⟨g, 2, none⟩ = some v2) ∧ (wi.frozen? ⟨g, 0, none⟩ = false ∧ wi.frozen? ⟨g, 1, none⟩ = false ∧ wi.frozen? ⟨g, 2, none⟩ = false) := by
  refine ⟨⟨?_, ?_, ?_⟩, ?_, ?_, ?_⟩
  · simp [World.cell?, h]
  · simp [World.cell?, h]
  · simp [World.cell?, h]
  · simp [World.frozen?, h]
  · simp [World.frozen?, h]
  · simp [World.frozen?, h]
theorem set_one {wi : World} {g : Nat} {v0 v1 v2 : Value} {T : TypeId} (h : wi.heap[g]? = some (.cells #[v0, v1, v2] T (0, 0))) (x : Value) : (wi.setCell ⟨g, 1, none⟩ x).heap[g]? = some (.cells #[v0, x, v2] T (0, 0)) := by
  simp [World.setCell, Array.getElem?_modify, h]
theorem set_two {wi : World} {g : Nat} {v0 v1 v2 : Value} {T : TypeId} (h : wi.heap[g]? = some (.cells #[v0, v1, v2] T (0, 0))) (x : Value) : (wi.setCell ⟨g, 2, none⟩ x).heap[g]? = some (.cells #[v0, v1, x] T (0, 0)) := by
  simp [World.setCell, Array.getElem?_modify, h]
theorem set_zero {wi : World} {g : Nat} {v0 v1 v2 : Value} {T : TypeId} (h : wi.heap[g]? = some (.cells #[v0, v1, v2] T (0, 0))) (x : Value) : (wi.setCell ⟨g, 0, none⟩ x).heap[g]? = some (.cells #[x, v1, v2] T (0, 0)) := by
  simp [World.setCell, Array.getElem?_modify, h]
/-- All three cells of a block anew. -/
theorem set_all {wi : World} {g : Nat} {v0 v1 v2 : Value} {T : TypeId} (h : wi.heap[g]? = some (.cells #[v0, v1, v2] T (0, 0))) (x y z : Value) :
    (((wi.setCell ⟨g, 0, none⟩ x).setCell ⟨g, 1, none⟩ y).setCell ⟨g, 2, none⟩ z).heap[g]? = some (.cells #[x, y, z] T (0, 0)) ∧ wi.grownBy (((wi.setCell ⟨g, 0, none⟩ x).setCell ⟨g, 1, none⟩ y).setCell ⟨g, 2, none⟩ z) (some g) :=
  ⟨set_two (set_one (set_zero h x) y) z, grown_trans (grown_trans (grown_set _ g 0 x) (grown_set _ g 1 y)) (grown_set _ g 2 z)⟩
/-- What the reader's challenge answers. -/
def ChAns (b : Nat) (s : ByteArray) (ahead : Nat) (r : List UInt8) (B : Nat) (e : Ending) (w' : World) : Prop :=
  (∃ (c : ChV) (u : List UInt8), chalL ahead r = .ok (c.x, u) ∧ Small c.x.params ∧ c.x.scheme.size ≤ 3000 ∧ c.x.token.size ≤ 3000 ∧ e = .returned (.tuple #[.agg #[.string c.x.scheme, .string c.x.token, .slice c.a c.len c.cap], .nilIface]) ∧ OwnP w' B (.slice c.a c.len c.cap) c.x.params ∧ CurR w' b s u) ∨
  (∃ (n left : Nat) (v : Value) (q1 q2 : ByteArray), chalL ahead r = .error (n, left) ∧ e = .returned (.tuple #[.agg #[.string q1, .string q2, .slice none 0 0], v]) ∧ IsAt w' v B n ((s.size - left : Nat) : Int))
theorem grown_new {w0 w w' : World} {b g : Nat} (h : w0.grownBy w (some b)) (hg : w.grownBy w' (some g)) (hB : w0.heap.size ≤ g) : w0.grownBy w' (some b) := grown_other h hg (fun k e => by injection e with e; omega)
set_option maxRecDepth 100000 in
set_option maxHeartbeats 4000000 in
theorem challenge_any (b : Nat) (s : ByteArray) (hs : s.size ≤ 3000) (ahead : Nat) (hah : ahead ≤ 1000) (r : List UInt8) (w : World) (hc : CurR w b s r) :
    Calls Tryz.prog 32 #[.agg #[.pointer (some ⟨b, 0, none⟩), .string s], .int .i64 (ahead : Int)] w fun e w' => ChAns b s ahead r w.heap.size e w' ∧ w.grownBy w' (some b) := by
  have hbl := hc.lt
  have hrl := hc.len
  have hrun := runL_le tokB r
  have hB1 : Below w.heap.size w ((w.alloc (.cells #[.pointer (some ⟨b, 0, none⟩), .string s] 66)).alloc (.cells #[.string ⟨#[]⟩, .string ⟨#[]⟩, .slice none 0 0] 38)) := ((Below.refl _ _).alloc (Nat.le_refl _) _).alloc (by simp) _
  have hF0 : RdF w ((w.alloc (.cells #[.pointer (some ⟨b, 0, none⟩), .string s] 66)).alloc (.cells #[.string ⟨#[]⟩, .string ⟨#[]⟩, .slice none 0 0] 38)) b s := by
    have hz : (w.alloc (.cells #[.pointer (some ⟨b, 0, none⟩), .string s] 66)).heap.size = w.heap.size + 1 := by simp
    refine ⟨?_, ?_, ?_⟩
    · rw [World.cell?_alloc_lt _ _ ⟨w.heap.size, 0, none⟩ (by simp)]; exact World.cell?_alloc_mark _ _ _ _ _
    · rw [World.cell?_alloc_lt _ _ ⟨w.heap.size, 1, none⟩ (by simp)]; exact World.cell?_alloc_mark _ _ _ _ _
    · rw [← hz]; exact heap_alloc_new _ _
  generalize hW0 : ((w.alloc (.cells #[.pointer (some ⟨b, 0, none⟩), .string s] 66)).alloc (.cells #[.string ⟨#[]⟩, .string ⟨#[]⟩, .slice none 0 0] 38)) = W0 at hB1 hF0
  have HF0 : Hid (RdF w W0 b s) := hF0
  have HC0 : Hid (CurR W0 b s r ∧ w.grownBy W0 (some b) ∧ W0.heap.size = w.heap.size + 2) := ⟨hc.below hB1, grown_below hB1 _, by rw [← hW0]; simp⟩
  have hnb : ∀ k, some b = some k → k ≠ w.heap.size ∧ k ≠ w.heap.size + 1 := fun k e => by injection e with e; omega
  obtain ⟨k, HK⟩ : ∃ k, Hid (s.size - r.length = k) := ⟨_, rfl⟩
  have hat := rd_at b s r _ HC0.out.1
  rw [HK.out] at hat
  obtain ⟨hx0, hx1, _⟩ := hF0
  clear hc hB1
  go_enter Tryz.func32, Tryz.ntmps32
  go_upto_region 1 with fail
  clear hW0
  go_wp2_with (go_at_call 22; refine hat.mono ?_; rintro e w1 ⟨rfl, hw1⟩; obtain rfl := hw1.symm; clear hw1 hat)
  refine (rd_word b s hs r _ HC0.out.1).mono ?_
  rintro e w2 ⟨t, rfl, htz, HT, hc2, hg2⟩
  have hb3 : Below w2.heap.size w2 (w2.alloc (.cells #[.string t, .string ⟨#[]⟩, .slice none 0 0] 38)) := (Below.refl _ _).alloc (Nat.le_refl _) _
  have HC3 : Hid (CurR (w2.alloc (.cells #[.string t, .string ⟨#[]⟩, .slice none 0 0] 38)) b s (r.dropWhile tokB) ∧ w.grownBy (w2.alloc (.cells #[.string t, .string ⟨#[]⟩, .slice none 0 0] 38)) (some b) ∧ RdF w (w2.alloc (.cells #[.string t, .string ⟨#[]⟩, .slice none 0 0] 38)) b s ∧ (w2.alloc (.cells #[.string t, .string ⟨#[]⟩, .slice none 0 0] 38)).heap[w2.heap.size]? = some (.cells #[.string t, .string ⟨#[]⟩, .slice none 0 0] 38 (0, 0))) :=
    ⟨hc2.below hb3, grown_trans HC0.out.2.1 (grown_trans hg2 (grown_below hb3 _)), (HF0.out.grown hg2 (fun k e => hnb k e)).grown (grown_below hb3 none) (fun k e => by cases e), heap_alloc_new w2 _⟩
  have hgz : w.heap.size + 2 ≤ w2.heap.size := by have := hg2.size; have := HC0.out.2.2; omega
  have ht3 : t.size ≤ 3000 := by omega
  have HTZ : Hid (t.size = runL tokB r) := htz
  obtain ⟨g3, HG3⟩ : ∃ g3, Hid (w2.heap.size = g3) := ⟨_, rfl⟩
  clear hc2 hg2 hb3 hx0 hx1 htz
  by_cases h0 : r.takeWhile tokB = []
  · have HA : Hid (chalL ahead r = .error (3, r.length)) := by show _ = _; unfold chalL; rw [if_pos h0]
    have ht0 : t.size = 0 := by rw [HTZ.out]; unfold runL; rw [h0]; rfl
    obtain rfl : t = ⟨#[]⟩ := ByteArray.ext (Array.eq_empty_of_size_eq_zero ht0)
    clear h0
    go_wp2_with fail
    refine (wrong_any 3 k _).mono ?_
    rintro e w9 ⟨⟨g, rfl, hg0, hg1, hgB, hgl⟩, hbw⟩
    have HAT : Hid (IsAt w9 (.iface 79 (.pointer (some ⟨g, 0, none⟩))) (w2.alloc (.cells #[.string ⟨#[]⟩, .string ⟨#[]⟩, .slice none 0 0] 38)).heap.size 3 k) := ⟨g, rfl, hg0, hg1, hgB, hgl⟩
    have HGW : Hid (w.grownBy w9 (some b)) := grown_trans HC3.out.2.1 (grown_below hbw _)
    have HR9 : Hid (w9.heap[w.heap.size + 1]? = some (.cells #[.string ⟨#[]⟩, .string ⟨#[]⟩, .slice none 0 0] 38 (0, 0))) := (RdF.grown HC3.out.2.2.1 (grown_below hbw none) (fun k e => by cases e)).res
    have HLT : Hid (w.heap.size + 1 < (w2.alloc (.cells #[.string ⟨#[]⟩, .string ⟨#[]⟩, .slice none 0 0] 38)).heap.size) := (Array.getElem?_eq_some_iff.1 (RdF.res HC3.out.2.2.1)).1
    obtain ⟨⟨r0, r1, r2⟩, f0, f1, f2⟩ := res_cells HR9.out
    clear hg0 hg1 hbw
    go_wp2
    obtain ⟨z1, z2⟩ := set_all HR9.out (.string ⟨#[]⟩) (.string ⟨#[]⟩) (.slice none 0 0)
    obtain ⟨⟨e0, e1, e2⟩, _⟩ := res_cells z1
    exact bodyPost_ret (v := .tuple #[.agg #[.string ⟨#[]⟩, .string ⟨#[]⟩, .slice none 0 0], (.iface 79 (.pointer (some ⟨g, 0, none⟩)))]) (by simp [results, Tryz.f32, go_sem, e0, e1, e2]) rfl ⟨.inr ⟨_, _, _, _, _, HA.out, rfl, by rw [HK.out]; exact (HAT.out.grown z2 (fun k e => by injection e with e; have := HLT.out; omega)).mono (by have := HLT.out; omega)⟩, grown_new HGW.out z2 (by omega)⟩
  · have HN0 : Hid (r.takeWhile tokB ≠ []) := h0
    have hte : t.toList.isEmpty = false := by
      rw [HT.out, ByteArray.toList_eq, bs_data]
      cases h : r.takeWhile tokB with
      | nil => exact absurd h h0
      | cons x y => rfl
    clear h0
    by_cases h8 : (8 : Int) ≤ (ahead : Int)
    · have HA : Hid (chalL ahead r = .error (4, r.length)) := by show _ = _; unfold chalL; rw [if_neg HN0.out, if_pos (by omega)]
      go_wp2_with fail
      refine (wrong_any 4 k _).mono ?_
      rintro e w9 ⟨⟨g, rfl, hg0, hg1, hgB, hgl⟩, hbw⟩
      have HAT : Hid (IsAt w9 (.iface 79 (.pointer (some ⟨g, 0, none⟩))) (w2.alloc (.cells #[.string t, .string ⟨#[]⟩, .slice none 0 0] 38)).heap.size 4 k) := ⟨g, rfl, hg0, hg1, hgB, hgl⟩
      have HGW : Hid (w.grownBy w9 (some b)) := grown_trans HC3.out.2.1 (grown_below hbw _)
      have HR9 : Hid (w9.heap[w.heap.size + 1]? = some (.cells #[.string ⟨#[]⟩, .string ⟨#[]⟩, .slice none 0 0] 38 (0, 0))) := (RdF.grown HC3.out.2.2.1 (grown_below hbw none) (fun k e => by cases e)).res
      have HLT : Hid (w.heap.size + 1 < (w2.alloc (.cells #[.string t, .string ⟨#[]⟩, .slice none 0 0] 38)).heap.size) := (Array.getElem?_eq_some_iff.1 (RdF.res HC3.out.2.2.1)).1
      obtain ⟨⟨r0, r1, r2⟩, f0, f1, f2⟩ := res_cells HR9.out
      clear hg0 hg1 hbw
      go_wp2
      obtain ⟨z1, z2⟩ := set_all HR9.out (.string ⟨#[]⟩) (.string ⟨#[]⟩) (.slice none 0 0)
      obtain ⟨⟨e0, e1, e2⟩, _⟩ := res_cells z1
      exact bodyPost_ret (v := .tuple #[.agg #[.string ⟨#[]⟩, .string ⟨#[]⟩, .slice none 0 0], (.iface 79 (.pointer (some ⟨g, 0, none⟩)))]) (by simp [results, Tryz.f32, go_sem, e0, e1, e2]) rfl ⟨.inr ⟨_, _, _, _, _, HA.out, rfl, by rw [HK.out]; exact (HAT.out.grown z2 (fun k e => by injection e with e; have := HLT.out; omega)).mono (by have := HLT.out; omega)⟩, grown_new HGW.out z2 (by omega)⟩
    · have HA8 : Hid (¬ 8 ≤ ahead) := by show ¬ _; omega
      obtain ⟨hx0, hx1, _⟩ := HC3.out.2.2.1
      go_wp2_with fail
      refine (rd_blanks b s hs _ _ HC3.out.1).mono ?_
      rintro e w4 ⟨rfl, hc4, hg4⟩
      have HC4 : Hid (CurR w4 b s ((r.dropWhile tokB).dropWhile blankB) ∧ w.grownBy w4 (some b) ∧ RdF w w4 b s ∧ w4.heap[w2.heap.size]? = some (.cells #[.string t, .string ⟨#[]⟩, .slice none 0 0] 38 (0, 0))) :=
        ⟨hc4, grown_trans HC3.out.2.1 hg4, HC3.out.2.2.1.grown hg4 (fun k e => hnb k e), (hg4.block _ (by simp) (by intro e; injection e with e; omega)).trans HC3.out.2.2.2⟩
      clear hc4 hg4 hx0 hx1 HC3
      obtain ⟨hx0, hx1, _⟩ := HC4.out.2.2.1
      go_wp2_with fail
      refine (over_at b s _ _ HC4.out.1).mono ?_
      rintro e w5 ⟨rfl, hc5, hg5⟩
      have HC5 : Hid (CurR w5 b s ((r.dropWhile tokB).dropWhile blankB) ∧ w.grownBy w5 (some b) ∧ RdF w w5 b s ∧ w5.heap[w2.heap.size]? = some (.cells #[.string t, .string ⟨#[]⟩, .slice none 0 0] 38 (0, 0))) :=
        ⟨hc5, grown_trans HC4.out.2.1 hg5, HC4.out.2.2.1.grown hg5 (fun k e => hnb k e), (hg5.block _ (Array.getElem?_eq_some_iff.1 HC4.out.2.2.2).1 (by intro e; injection e with e; omega)).trans HC4.out.2.2.2⟩
      clear hc5 hg5 hx0 hx1 HC4
      obtain ⟨hx0, hx1, hres⟩ := HC5.out.2.2.1
      obtain ⟨⟨r0, r1, r2⟩, f0, f1, f2⟩ := res_cells hres
      obtain ⟨⟨b0, b1, b2⟩, n0, n1, n2⟩ := res_cells HC5.out.2.2.2
      have HRES : Hid (w5.heap[w.heap.size + 1]? = some (.cells #[.string ⟨#[]⟩, .string ⟨#[]⟩, .slice none 0 0] 38 (0, 0))) := hres
      clear hres
      obtain ⟨r2', HR2⟩ : ∃ r2', Hid ((r.dropWhile tokB).dropWhile blankB = r2') := ⟨_, rfl⟩
      cases hst : stopsL ((r.dropWhile tokB).dropWhile blankB)
      · by_cases hbk : 0 < runL blankB (r.dropWhile tokB)
        · have HIN : Hid (chalL ahead r = insideL t ((r.dropWhile tokB).dropWhile blankB)) := by
            show _ = _
            unfold chalL
            rw [if_neg HN0.out, if_neg HA8.out, if_neg (by rw [hst]; simp), if_neg (by omega), HT.out]
          rw [decide_eq_true hbk]
          clear hbk hst
          rw [HR2.out] at HIN HC5
          go_wp2_with fail
          refine (token_any b s hs _ _ HC5.out.1).mono ?_
          rintro e w6 ⟨htk, hg6⟩
          have HC6 : Hid (w.grownBy w6 (some b) ∧ RdF w w6 b s ∧ w6.heap[w2.heap.size]? = some (.cells #[.string t, .string ⟨#[]⟩, .slice none 0 0] 38 (0, 0))) :=
            ⟨grown_trans HC5.out.2.1 hg6, HC5.out.2.2.1.grown hg6 (fun k e => hnb k e), (hg6.block _ (Array.getElem?_eq_some_iff.1 HC5.out.2.2.2).1 (by intro e; injection e with e; omega)).trans HC5.out.2.2.2⟩
          clear hg6 hx0 hx1 r0 r1 r2 f0 f1 f2 b0 b1 b2 n0 n1 n2 HRES
          rcases htk with ⟨tk, u, hT, htk0, htk3, rfl, hc6⟩ | ⟨hT, rfl, hc6⟩
          · have HA : Hid (chalL ahead r = .ok (⟨t, tk, []⟩, u)) := by
              show _ = _
              rw [HIN.out]
              unfold insideL
              rw [hT]
            have hb7 := set_one HC6.out.2.2 (.string tk)
            have hg7 := grown_set w6 w2.heap.size 1 (.string tk)
            have HC7 : Hid (CurR (w6.setCell ⟨w2.heap.size, 1, none⟩ (.string tk)) b s u ∧ w.grownBy (w6.setCell ⟨w2.heap.size, 1, none⟩ (.string tk)) (some b) ∧ RdF w (w6.setCell ⟨w2.heap.size, 1, none⟩ (.string tk)) b s) :=
              ⟨hc6.grown hg7 (by intro e; injection e with e; omega), grown_new HC6.out.1 hg7 (by omega), HC6.out.2.1.grown hg7 (fun k e => by injection e with e; omega)⟩
            obtain ⟨⟨b0, b1, b2⟩, n0, n1, n2⟩ := res_cells HC6.out.2.2
            obtain ⟨⟨c0, c1, c2⟩, _, _, _⟩ := res_cells hb7
            obtain ⟨⟨r0, r1, r2⟩, f0, f1, f2⟩ := res_cells HC7.out.2.2.res
            have hke : tk.toList.isEmpty = false := by
              rw [ByteArray.toList_eq]
              cases h : tk.data.toList with
              | nil => exact absurd (by rw [← len_data, h]; rfl) htk0
              | cons x y => rfl
            clear hT hc6 hb7 hg7
            generalize hW7 : w6.setCell ⟨w2.heap.size, 1, none⟩ (.string tk) = W7 at HC7 c0 c1 c2 r0 r1 r2 f0 f1 f2
            go_wp2
            obtain ⟨z1, z2⟩ := set_all HC7.out.2.2.res (.string t) (.string tk) (.slice none 0 0)
            obtain ⟨⟨e0, e1, e2⟩, _⟩ := res_cells z1
            exact bodyPost_ret (v := .tuple #[.agg #[.string t, .string tk, .slice none 0 0], .nilIface]) (by simp [results, Tryz.f32, go_sem, e0, e1, e2]) rfl ⟨.inl ⟨⟨⟨t, tk, []⟩, none, 0, 0, 0⟩, _, HA.out, ⟨by simp, fun p hp => by cases hp⟩, ht3, htk3, rfl, ownP_nil _ _, HC7.out.1.grown z2 (by intro e; injection e with e; omega)⟩, grown_new HC7.out.2.1 z2 (by omega)⟩
          · have HIN2 : Hid (chalL ahead r = (paramsL (r2'.length + 1) [] r2').map fun x => (⟨t, ⟨#[]⟩, x.1⟩, x.2)) := by
              show _ = _
              rw [HIN.out]
              unfold insideL
              rw [hT]
            have hb7 := set_one HC6.out.2.2 (.string ⟨#[]⟩)
            have hg7 := grown_set w6 w2.heap.size 1 (.string ⟨#[]⟩)
            have HC7 : Hid (CurR (w6.setCell ⟨w2.heap.size, 1, none⟩ (.string ⟨#[]⟩)) b s r2' ∧ w.grownBy (w6.setCell ⟨w2.heap.size, 1, none⟩ (.string ⟨#[]⟩)) (some b) ∧ RdF w (w6.setCell ⟨w2.heap.size, 1, none⟩ (.string ⟨#[]⟩)) b s ∧ (w6.setCell ⟨w2.heap.size, 1, none⟩ (.string ⟨#[]⟩)).heap[w2.heap.size]? = some (.cells #[.string t, .string ⟨#[]⟩, .slice none 0 0] 38 (0, 0))) :=
              ⟨hc6.grown hg7 (by intro e; injection e with e; omega), grown_new HC6.out.1 hg7 (by omega), HC6.out.2.1.grown hg7 (fun k e => by injection e with e; omega), hb7⟩
            obtain ⟨⟨b0, b1, b2⟩, n0, n1, n2⟩ := res_cells HC6.out.2.2
            obtain ⟨⟨c0, c1, c2⟩, m0, m1, m2⟩ := res_cells hb7
            obtain ⟨hx0, hx1, _⟩ := HC7.out.2.2.1
            clear hT hc6 hb7 hg7 HIN
            generalize hW7 : w6.setCell ⟨w2.heap.size, 1, none⟩ (.string ⟨#[]⟩) = W7 at HC7 c0 c1 c2 m0 m1 m2 hx0 hx1
            go_wp2_with fail
            clear hW7
            refine (params_any b s hs _ _ HC7.out.1).mono ?_
            rintro e w8 ⟨hps, hg8⟩
            have hw7 : w2.heap.size < W7.heap.size := (Array.getElem?_eq_some_iff.1 HC7.out.2.2.2).1
            have HC8 : Hid (w.grownBy w8 (some b) ∧ RdF w w8 b s ∧ w8.heap[w2.heap.size]? = some (.cells #[.string t, .string ⟨#[]⟩, .slice none 0 0] 38 (0, 0))) :=
              ⟨grown_trans HC7.out.2.1 hg8, HC7.out.2.2.1.grown hg8 (fun k e => hnb k e), (hg8.block _ hw7 (by intro e; injection e with e; omega)).trans HC7.out.2.2.2⟩
            clear hg8 hx0 hx1 b0 b1 b2 n0 n1 n2 c0 c1 c2 m0 m1 m2
            rcases hps with ⟨ps, u, v, hP, hsm, rfl, hown, hc8⟩ | ⟨en, left, v, hP, rfl, hat8⟩
            · obtain ⟨a, cap, pg, rfl, _, _⟩ := hown.pars
              have HA : Hid (chalL ahead r = .ok (⟨t, ⟨#[]⟩, ps⟩, u)) := by
                show _ = _
                rw [HIN2.out, hP]
                rfl
              have hb9 := set_two HC8.out.2.2 (.slice a ps.length cap)
              have hg9 := grown_set w8 w2.heap.size 2 (.slice a ps.length cap)
              have HC9 : Hid (CurR (w8.setCell ⟨w2.heap.size, 2, none⟩ (.slice a ps.length cap)) b s u ∧ w.grownBy (w8.setCell ⟨w2.heap.size, 2, none⟩ (.slice a ps.length cap)) (some b) ∧ RdF w (w8.setCell ⟨w2.heap.size, 2, none⟩ (.slice a ps.length cap)) b s ∧ OwnP (w8.setCell ⟨w2.heap.size, 2, none⟩ (.slice a ps.length cap)) W7.heap.size (.slice a ps.length cap) ps) :=
                ⟨hc8.grown hg9 (by intro e; injection e with e; omega), grown_new HC8.out.1 hg9 (by omega), HC8.out.2.1.grown hg9 (fun k e => by injection e with e; omega), hown.grown hg9 hw7⟩
              obtain ⟨⟨b0, b1, b2⟩, n0, n1, n2⟩ := res_cells HC8.out.2.2
              obtain ⟨⟨c0, c1, c2⟩, m0, m1, m2⟩ := res_cells hb9
              obtain ⟨⟨r0, r1, r2⟩, f0, f1, f2⟩ := res_cells HC9.out.2.2.1.res
              have HSM : Hid (Small ps) := hsm
              clear hP hc8 hown hb9 hg9
              generalize hW9 : w8.setCell ⟨w2.heap.size, 2, none⟩ (.slice a ps.length cap) = W9 at HC9 c0 c1 c2 m0 m1 m2 r0 r1 r2 f0 f1 f2
              go_wp2
              clear hW9
              obtain ⟨z1, z2⟩ := set_all HC9.out.2.2.1.res (.string t) (.string ⟨#[]⟩) (.slice a ps.length cap)
              obtain ⟨⟨e0, e1, e2⟩, _⟩ := res_cells z1
              exact bodyPost_ret (v := .tuple #[.agg #[.string t, .string ⟨#[]⟩, .slice a ps.length cap], .nilIface]) (by simp [results, Tryz.f32, go_sem, e0, e1, e2]) rfl ⟨.inl ⟨⟨⟨t, ⟨#[]⟩, ps⟩, a, cap, 0, 0⟩, _, HA.out, HSM.out, ht3, Nat.zero_le _, rfl, World.ownsRow.mono (HC9.out.2.2.2.grown z2 (by omega)) (by omega), HC9.out.1.grown z2 (by intro e; injection e with e; omega)⟩, grown_new HC9.out.2.1 z2 (by omega)⟩
            · have HA : Hid (chalL ahead r = .error (en, left)) := by
                show _ = _
                rw [HIN2.out, hP]
                rfl
              obtain ⟨eg, rfl, eg0, eg1, egB, egl⟩ := hat8
              have hb9 := set_two HC8.out.2.2 (.slice none 0 0)
              have hg9 := grown_set w8 w2.heap.size 2 (.slice none 0 0)
              have HC9 : Hid (IsAt (w8.setCell ⟨w2.heap.size, 2, none⟩ (.slice none 0 0)) (.iface 79 (.pointer (some ⟨eg, 0, none⟩))) W7.heap.size en ((s.size - left : Nat) : Int) ∧ w.grownBy (w8.setCell ⟨w2.heap.size, 2, none⟩ (.slice none 0 0)) (some b) ∧ RdF w (w8.setCell ⟨w2.heap.size, 2, none⟩ (.slice none 0 0)) b s) :=
                ⟨IsAt.grown ⟨eg, rfl, eg0, eg1, egB, egl⟩ hg9 (fun k e => by injection e with e; omega), grown_new HC8.out.1 hg9 (by omega), HC8.out.2.1.grown hg9 (fun k e => by injection e with e; omega)⟩
              obtain ⟨⟨b0, b1, b2⟩, n0, n1, n2⟩ := res_cells HC8.out.2.2
              obtain ⟨⟨c0, c1, c2⟩, m0, m1, m2⟩ := res_cells hb9
              obtain ⟨⟨r0, r1, r2⟩, f0, f1, f2⟩ := res_cells HC9.out.2.2.res
              clear hP eg0 eg1 hb9 hg9
              generalize hW9 : w8.setCell ⟨w2.heap.size, 2, none⟩ (.slice none 0 0) = W9 at HC9 c0 c1 c2 m0 m1 m2 r0 r1 r2 f0 f1 f2
              go_wp2
              clear hW9
              obtain ⟨z1, z2⟩ := set_all HC9.out.2.2.res (.string t) (.string ⟨#[]⟩) (.slice none 0 0)
              obtain ⟨⟨e0, e1, e2⟩, _⟩ := res_cells z1
              exact bodyPost_ret (v := .tuple #[.agg #[.string t, .string ⟨#[]⟩, .slice none 0 0], .iface 79 (.pointer (some ⟨eg, 0, none⟩))]) (by simp [results, Tryz.f32, go_sem, e0, e1, e2]) rfl ⟨.inr ⟨en, left, _, _, _, HA.out, rfl, (HC9.out.1.grown z2 (fun k e => by injection e with e; omega)).mono (by omega)⟩, grown_new HC9.out.2.1 z2 (by omega)⟩
        · have HA : Hid (chalL ahead r = .error (3, ((r.dropWhile tokB).dropWhile blankB).length)) := by
            show _ = _
            unfold chalL
            rw [if_neg HN0.out, if_neg HA8.out, if_neg (by rw [hst]; simp), if_pos (by omega)]
          rw [decide_eq_false hbk]
          clear hbk hst
          have hat2 := rd_at b s _ _ HC5.out.1
          obtain ⟨k2, HK2⟩ : ∃ k2, Hid (s.size - ((r.dropWhile tokB).dropWhile blankB).length = k2) := ⟨_, rfl⟩
          rw [HK2.out] at hat2
          go_wp2_with (go_at_call 22; refine hat2.mono ?_; rintro e w1 ⟨rfl, hw1⟩; obtain rfl := hw1.symm; clear hw1 hat2)
          refine (wrong_any 3 k2 _).mono ?_
          rintro e w9 ⟨⟨g, rfl, hg0, hg1, hgB, hgl⟩, hbw⟩
          have HAT : Hid (IsAt w9 (.iface 79 (.pointer (some ⟨g, 0, none⟩))) (w5).heap.size 3 k2) := ⟨g, rfl, hg0, hg1, hgB, hgl⟩
          have HGW : Hid (w.grownBy w9 (some b)) := grown_trans HC5.out.2.1 (grown_below hbw _)
          have HR9 : Hid (w9.heap[w.heap.size + 1]? = some (.cells #[.string ⟨#[]⟩, .string ⟨#[]⟩, .slice none 0 0] 38 (0, 0))) := (RdF.grown HC5.out.2.2.1 (grown_below hbw none) (fun k e => by cases e)).res
          have HLT : Hid (w.heap.size + 1 < (w5).heap.size) := (Array.getElem?_eq_some_iff.1 (RdF.res HC5.out.2.2.1)).1
          clear hg0 hg1 hbw r0 r1 r2 f0 f1 f2 b0 b1 b2 n0 n1 n2 hx0 hx1
          obtain ⟨⟨r0, r1, r2⟩, f0, f1, f2⟩ := res_cells HR9.out
          go_wp2
          obtain ⟨z1, z2⟩ := set_all HR9.out (.string ⟨#[]⟩) (.string ⟨#[]⟩) (.slice none 0 0)
          obtain ⟨⟨e0, e1, e2⟩, _⟩ := res_cells z1
          exact bodyPost_ret (v := .tuple #[.agg #[.string ⟨#[]⟩, .string ⟨#[]⟩, .slice none 0 0], (.iface 79 (.pointer (some ⟨g, 0, none⟩)))]) (by simp [results, Tryz.f32, go_sem, e0, e1, e2]) rfl ⟨.inr ⟨_, _, _, _, _, HA.out, rfl, by rw [HK2.out]; exact (HAT.out.grown z2 (fun k e => by injection e with e; have := HLT.out; omega)).mono (by have := HLT.out; omega)⟩, grown_new HGW.out z2 (by omega)⟩
      · have HA : Hid (chalL ahead r = .ok (⟨t, ⟨#[]⟩, []⟩, (r.dropWhile tokB).dropWhile blankB)) := by
          show _ = _
          unfold chalL
          rw [if_neg HN0.out, if_neg HA8.out, if_pos hst, HT.out]
        go_wp2
        obtain ⟨z1, z2⟩ := set_all HRES.out (.string t) (.string ⟨#[]⟩) (.slice none 0 0)
        obtain ⟨⟨e0, e1, e2⟩, _⟩ := res_cells z1
        exact bodyPost_ret (v := .tuple #[.agg #[.string t, .string ⟨#[]⟩, .slice none 0 0], .nilIface]) (by simp [results, Tryz.f32, go_sem, e0, e1, e2]) rfl ⟨.inl ⟨⟨⟨t, ⟨#[]⟩, []⟩, none, 0, 0, 0⟩, _, HA.out, ⟨by simp, fun p hp => by cases hp⟩, ht3, Nat.zero_le _, rfl, ownP_nil _ _, HC5.out.1.grown z2 (by intro e; injection e with e; omega)⟩, grown_new HC5.out.2.1 z2 (by omega)⟩
end Go.Proofs.YtgajhmmildbkfaaGreatDoor

/- One challenge more at a row of challenges that a call owns. -/
namespace Go.Proofs.YtgajhmmildbkfaaGreatDoor
open Go.RowKit

theorem infoC : (Tryz.prog.info? 38).map (fun i => (i.zero, i.size, i.bytes)) = some (some (.agg #[.string ⟨#[]⟩, .string ⟨#[]⟩, .slice none 0 0]), 3, 56) := by kernel_rfl
def chCells : List ChV → List Value
  | [] => []
  | c :: r => .string c.x.scheme :: .string c.x.token :: .slice c.a c.len c.cap :: chCells r
theorem chCells_app (a b : List ChV) : chCells (a ++ b) = chCells a ++ chCells b := by
  induction a with
  | nil => rfl
  | cons p r ih => simp [chCells, ih]
theorem chCells_at : ∀ (cs : List ChV) (j : Nat) (c : ChV), cs[j]? = some c → (chCells cs)[j * 3]? = some (.string c.x.scheme) ∧ (chCells cs)[j * 3 + 1]? = some (.string c.x.token) ∧ (chCells cs)[j * 3 + 2]? = some (.slice c.a c.len c.cap)
  | [], j, p, h => by simp at h
  | q :: r, 0, p, h => by
    simp at h
    subst h
    exact ⟨rfl, rfl, rfl⟩
  | q :: r, j + 1, p, h => by
    have h' : r[j]? = some p := by simpa using h
    have := chCells_at r j p h'
    rw [show (j + 1) * 3 = j * 3 + 1 + 1 + 1 by omega]
    simpa [chCells] using this
/-- A value of type []api.Challenge that owns these, and their parameters, among the blocks from B on. -/
def OwnC (w : World) (B : Nat) (v : Value) (cs : List ChV) : Prop := w.ownsRow B 38 3 v cs.length (chCells cs) ∧ ∀ c ∈ cs, OwnP w B (.slice c.a c.len c.cap) c.x.params
theorem OwnC.lt {w : World} {B : Nat} {v : Value} {cs : List ChV} (h : OwnC w B v cs) : ∀ k, v.ownBlock = some k → B ≤ k ∧ k < w.heap.size := World.ownsRow.lt h.1
theorem OwnC.grown {w w' : World} {B b : Nat} {v : Value} {cs : List ChV} (h : OwnC w B v cs) (hg : w.grownBy w' (some b)) (hb : b < B) : OwnC w' B v cs := by
  refine ⟨World.ownsRow.kept h.1 hg (.inr ?_), fun c hc => (h.2 c hc).grown hg hb⟩
  intro e
  have := (h.lt b e).1
  omega
theorem OwnC.below {w w' : World} {B : Nat} {v : Value} {cs : List ChV} (h : OwnC w B v cs) (hb : Below w.heap.size w w') : OwnC w' B v cs := by
  refine ⟨World.ownsRow.kept (row := none) h.1 ⟨hb.os, hb.tape, hb.output, hb.size, fun i hi _ => hb.block i hi⟩ ?_, fun c hc => (h.2 c hc).below hb⟩
  rcases v.ownBlock with _ | k
  · exact .inl rfl
  · exact .inr (by simp)
theorem ownC_nil (w : World) (B : Nat) : OwnC w B (.slice none 0 0) [] := ⟨⟨rfl, .inl ⟨rfl, rfl⟩⟩, fun c hc => by cases hc⟩
/-- The same challenges, told where their parameters lie. -/
theorem OwnC.chals {w : World} {B : Nat} {v : Value} {cs : List ChV} (h : OwnC w B v cs) : ∃ (a : Option Addr) (cap g : Nat) (ds : List ChV), v = .slice a cs.length cap ∧ Chals w a cs.length g 0 ds ∧ xsOf ds = xsOf cs ∧ (0 < cs.length → B ≤ g) ∧ (∀ c ∈ ds, 0 < c.len → B ≤ c.b) := by
  have hd : ∃ ds : List ChV, ds.length = cs.length ∧ xsOf ds = xsOf cs ∧ (∀ c ∈ ds, ChOk w c) ∧ (∀ c ∈ ds, 0 < c.len → B ≤ c.b) ∧ chCells ds = chCells cs := by
    have h2 := h.2
    clear h
    induction cs with
    | nil => exact ⟨[], rfl, rfl, fun c hc => (by cases hc), fun c hc => (by cases hc), rfl⟩
    | cons c r ih =>
      obtain ⟨ds, e1, e2, e3, e5, e4⟩ := ih (fun d hd => h2 d (by simp [hd]))
      obtain ⟨a, cap, g, hv, hp, hBg⟩ := (h2 c (by simp)).pars
      injection hv with v1 v2 v3
      refine ⟨⟨c.x, c.a, c.cap, g, 0⟩ :: ds, by simp [e1], ?_, ?_, ?_, ?_⟩
      · unfold xsOf at e2 ⊢
        simp [e2]
      · intro d hd
        rcases List.mem_cons.1 hd with rfl | hd
        · show Pars w c.a c.x.params.length g 0 c.x.params
          rw [v1]
          exact hp
        · exact e3 d hd
      · intro d hd
        rcases List.mem_cons.1 hd with rfl | hd
        · exact hBg
        · exact e5 d hd
      · show _ :: _ :: _ :: chCells ds = _
        rw [e4]
        rfl
  obtain ⟨ds, e1, e2, e3, e5, e4⟩ := hd
  rcases h.1.2 with ⟨rfl, h0⟩ | ⟨g, cap, cur, rfl, hBg, hh, _, _, _, ht⟩
  · refine ⟨none, 0, 0, ds, by rw [h0], ⟨e1, fun h1 => absurd h0 (by omega), fun j x hx => ?_, fun j x hx => ?_, fun j x hx => ?_, e3⟩, e2, fun h1 => by omega, e5⟩
    · have := (List.getElem?_eq_some_iff.1 hx).1; omega
    · have := (List.getElem?_eq_some_iff.1 hx).1; omega
    · have := (List.getElem?_eq_some_iff.1 hx).1; omega
  · refine ⟨_, cap, g, ds, rfl, ⟨e1, fun _ => ⟨rfl, (Array.getElem?_eq_some_iff.1 hh).1⟩, fun j x hx => ?_, fun j x hx => ?_, fun j x hx => ?_, e3⟩, e2, fun _ => hBg, e5⟩
    · have hj := World.ownsRow.cells h.1 (g := g) rfl (j * 3) (.string x.x.scheme) (by rw [← e4]; exact (chCells_at ds j x hx).1)
      rw [WideShapes.add_plain] at hj
      exact hj
    · have hj := World.ownsRow.cells h.1 (g := g) rfl (j * 3 + 1) (.string x.x.token) (by rw [← e4]; exact (chCells_at ds j x hx).2.1)
      rw [WideShapes.add_plain] at hj
      rw [Nat.add_assoc]
      exact hj
    · have hj := World.ownsRow.cells h.1 (g := g) rfl (j * 3 + 2) (.slice x.a x.len x.cap) (by rw [← e4]; exact (chCells_at ds j x hx).2.2)
      rw [WideShapes.add_plain] at hj
      rw [Nat.add_assoc]
      exact hj
theorem own_apart {w : World} {B B2 : Nat} {v u : Value} {cs : List ChV} {ps : List Par} (h : OwnC w B v cs) (hp : OwnP w B2 u ps) : u.ownBlock = none ∨ u.ownBlock ≠ v.ownBlock := by
  rcases hp.2 with ⟨rfl, h0⟩ | ⟨g, cap, cur, rfl, _, hh, _⟩
  · exact .inl rfl
  · refine .inr fun e => ?_
    rcases h.1.2 with ⟨rfl, h0⟩ | ⟨g2, cap2, cur2, rfl, _, hh2, _⟩
    · cases e
    · have e2 : g = g2 := by simpa [Value.ownBlock] using e
      subst e2
      rw [hh] at hh2
      injection hh2 with hh2
      injection hh2 with _ h3
      exact absurd h3 (by decide)
theorem wp_appc {ops : Array Oper} {rest : List Oper} {o : Oper} {a : Act} {Q : Exit → Act → World → Prop} (hgd : o.guard = none) (s x : Operand)
    (ho : o.op = .call { callee := .builtin .append, args := #[s, x], argTypes := #[33, 33] })
    (B : Nat) (wr : World) (v : Value) (cs : List ChV) (n : Nat) (hs : a.eval s = v) (hown : OwnC wr B v cs) (hn : cs.length = n) (hl : n ≤ 100000) (hB : B ≤ wr.heap.size)
    (c : ChV) (hc : OwnP wr B (.slice c.a c.len c.cap) c.x.params) (H : Nat) (hH : wr.heap.size = H) (hx : a.eval x = .slice (some ⟨H, 0, none⟩) 1 1)
    (h : ∀ g cap w', OwnC w' B (.slice (some ⟨g, 0, none⟩) (n + 1) cap) (cs ++ [c]) → (wr.alloc (.cells #[.string c.x.scheme, .string c.x.token, .slice c.a c.len c.cap] 38)).grownBy w' v.ownBlock → g < w'.heap.size → wpList Tryz.prog ops Q rest (a.put o.dst (.slice (some ⟨g, 0, none⟩) (n + 1) cap)) w') :
    wpList Tryz.prog ops Q (o :: rest) a (wr.alloc (.cells #[.string c.x.scheme, .string c.x.token, .slice c.a c.len c.cap] 38)) := by
  subst hn hH
  have hb1 : Below wr.heap.size wr (wr.alloc (.cells #[.string c.x.scheme, .string c.x.token, .slice c.a c.len c.cap] 38)) := (Below.refl _ _).alloc (Nat.le_refl _) _
  obtain ⟨i0, hi0, hz0, hz1, hz2⟩ := info_parts infoC
  refine wpList_append_lies _ hgd s x 33 ho B 38 i0 (.agg #[.string ⟨#[]⟩, .string ⟨#[]⟩, .slice none 0 0]) 3 56 Tryz.underlying33 hi0 hz0 hz1 hz2 rfl (by omega) v cs.length _ hs (World.ownsRow.alloc hown.1 _) ⟨wr.heap.size, 0, none⟩ 1 1 [.string c.x.scheme, .string c.x.token, .slice c.a c.len c.cap] hx rfl
    (World.news_of_block (cs := #[.string c.x.scheme, .string c.x.token, .slice c.a c.len c.cap]) (t := 38) (fr := (0, 0)) (heap_alloc_new wr _)) (by simp [Value.oneCell']) (by omega) (by unfold maxLen; omega) (by omega) (by simp; omega) _ rfl ?_
  intro g cap w' hown1 hgrow _ hlt
  refine h g cap w' ⟨?_, fun d hd => ?_⟩ hgrow hlt
  · rw [List.length_append, chCells_app]
    exact hown1
  · have hd' : OwnP wr B (.slice d.a d.len d.cap) d.x.params := by
      rcases List.mem_append.1 hd with hd | hd
      · exact hown.2 d hd
      · rw [List.mem_singleton.1 hd]; exact hc
    exact World.ownsRow.kept (hd'.below hb1) hgrow (own_apart hown hd')
end Go.Proofs.YtgajhmmildbkfaaGreatDoor

/- A world that has drawn an order is the same. -/
namespace Go.Proofs.YtgajhmmildbkfaaGreatDoor
open Go.RowKit

theorem drewN_at {B : Nat} {a w : World} (h : Below B a w) (n : Nat) : Below B a (w.drewN n) := h.trans ⟨rfl, rfl, rfl, Nat.le_refl _, fun _ _ => rfl⟩
end Go.Proofs.YtgajhmmildbkfaaGreatDoor

/- A header's challenges, by the program. -/
namespace Go.Proofs.YtgajhmmildbkfaaGreatDoor
open Go.RowKit

theorem gap_twice (l : List UInt8) : (l.dropWhile gapB).dropWhile gapB = l.dropWhile gapB := by
  induction l with
  | nil => rfl
  | cons c t ih =>
    by_cases h : gapB c = true
    · rw [List.dropWhile_cons_of_pos h, ih]
    · rw [List.dropWhile_cons_of_neg h, List.dropWhile_cons_of_neg h]
/-- Challenges as they are read. -/
def Slight (c : ChV) : Prop := Small c.x.params ∧ c.x.scheme.size ≤ 3000 ∧ c.x.token.size ≤ 3000
/-- What is known at the loop's head. -/
def PrAt (l : List UInt8) (acc : List Chal) (g : List UInt8) : Prop := (∃ f, g.length < f ∧ askL l = parseL f acc g) ∧ g.dropWhile gapB = g
theorem prAt_end {l : List UInt8} {acc : List Chal} (h : PrAt l acc []) : askL l = .ok acc := by
  obtain ⟨⟨f, hf, e⟩, _⟩ := h
  obtain ⟨g, rfl⟩ : ∃ g, f = g + 1 := ⟨f - 1, by omega⟩
  rw [e, parseL]
  rfl
theorem prAt_err {l g : List UInt8} {acc : List Chal} {x : Nat × Nat} (h : PrAt l acc g) (hg : g ≠ []) (hc : chalL acc.length g = .error x) : askL l = .error x := by
  obtain ⟨⟨f, hf, e⟩, hgg⟩ := h
  obtain ⟨f', rfl⟩ : ∃ f', f = f' + 1 := ⟨f - 1, by omega⟩
  rw [e, parseL, hgg, if_neg hg, hc]
theorem prAt_next {l g u : List UInt8} {acc : List Chal} {x : Chal} (h : PrAt l acc g) (hg : g ≠ []) (hc : chalL acc.length g = .ok (x, u)) : PrAt l (acc ++ [x]) (u.dropWhile gapB) := by
  obtain ⟨⟨f, hf, e⟩, hgg⟩ := h
  obtain ⟨f', rfl⟩ : ∃ f', f = f' + 1 := ⟨f - 1, by omega⟩
  have hl := chalL_len _ _ _ _ hc
  have e2 : parseL (f' + 1) acc g = parseL f' (acc ++ [x]) u := by rw [parseL, hgg, if_neg hg, hc]
  rw [e2] at e
  have hf' : u.length < f' := by omega
  obtain ⟨f2, rfl⟩ : ∃ f2, f' = f2 + 1 := ⟨f' - 1, by omega⟩
  have e3 : parseL (f2 + 1) (acc ++ [x]) u = parseL (f2 + 1) (acc ++ [x]) (u.dropWhile gapB) := by rw [parseL, parseL, gap_twice]
  exact ⟨⟨f2 + 1, by have := dw_len gapB u; omega, e.trans e3⟩, gap_twice u⟩
theorem prAt_start (l : List UInt8) : PrAt l [] (l.dropWhile gapB) := by
  refine ⟨⟨l.length + 1, by have := dw_len gapB l; omega, ?_⟩, gap_twice l⟩
  unfold askL
  rw [parseL, parseL, gap_twice]
theorem chal_few {ahead : Nat} {r u : List UInt8} {x : Chal} (h : chalL ahead r = .ok (x, u)) : ahead < 8 := by
  unfold chalL at h
  split at h
  · cases h
  · split at h
    · cases h
    · omega
/-- What Parse answers. -/
def PsrAns (s : ByteArray) (B : Nat) (e : Ending) (w' : World) : Prop :=
  (∃ (cs : List ChV) (v : Value), askL s.data.toList = .ok (xsOf cs) ∧ cs.length ≤ 8 ∧ (∀ c ∈ cs, Slight c) ∧ e = .returned (.tuple #[v, .nilIface]) ∧ OwnC w' B v cs) ∨
  (∃ (n left : Nat) (v : Value), askL s.data.toList = .error (n, left) ∧ e = .returned (.tuple #[.slice none 0 0, v]) ∧ IsAt w' v B n ((s.size - left : Nat) : Int))
theorem parse_long (s : ByteArray) (hs : 3000 < s.size) (w : World) :
    Calls Tryz.prog 10 #[.string s] w fun e w' => e = .returned (.tuple #[.slice none 0 0, .iface 64 (.int .i64 4)]) ∧ w' = w := by
  have hs' : (3000 : Int) < (s.size : Int) := by omega
  go_enter Tryz.func10, Tryz.ntmps10
  go_wp2
  go_ret2
  exact ⟨rfl, rfl⟩
theorem xsOf_snoc (cs : List ChV) (c : ChV) : xsOf (cs ++ [c]) = xsOf cs ++ [c.x] := by unfold xsOf; simp
theorem xsOf_len (cs : List ChV) : (xsOf cs).length = cs.length := by unfold xsOf; simp
set_option maxRecDepth 100000 in
set_option maxHeartbeats 4000000 in
theorem parse_any (s : ByteArray) (hs : s.size ≤ 3000) (w : World) :
    Calls Tryz.prog 10 #[.string s] w fun e w' => PsrAns s (w.heap.size + 1) e w' ∧ Below w.heap.size w w' := by
  have hs' : ¬ (3000 : Int) < (s.size : Int) := by omega
  go_enter Tryz.func10, Tryz.ntmps10
  go_wp2_with (go_at_call 19; refine (on_any s _).mono ?_; rintro e w1 ⟨rfl, hc1, hb1, hz1⟩)
  have hb2 : Below w1.heap.size w1 (w1.alloc (.cells #[.pointer (some ⟨w.heap.size, 0, none⟩), .string s] 66)) := (Below.refl _ _).alloc (Nat.le_refl _) _
  have hbox : ∀ j v, #[Value.pointer (some ⟨w.heap.size, 0, none⟩), .string s][j]? = some v → (w1.alloc (.cells #[.pointer (some ⟨w.heap.size, 0, none⟩), .string s] 66)).cell? ⟨w1.heap.size, j, none⟩ = some v := fun j v hv => (World.cell?_alloc_mark _ _ _ _ _).trans hv
  have hc2 : CurR w1 w.heap.size s s.data.toList := ⟨by rw [len_data, Nat.sub_self]; exact hc1, List.suffix_refl _⟩
  have hz2 : (w1.alloc (.cells #[.pointer (some ⟨w.heap.size, 0, none⟩), .string s] 66)).heap.size = w1.heap.size + 1 := by simp
  generalize hW2 : w1.alloc (.cells #[.pointer (some ⟨w.heap.size, 0, none⟩), .string s] 66) = W2 at hb2 hbox hz2 ⊢
  have HC2 : Hid (CurR W2 w.heap.size s s.data.toList ∧ Below w.heap.size w W2 ∧ W2.heap.size = w1.heap.size + 1) := ⟨hc2.below hb2, hb1.trans (hb2.mono hb1.size), hz2⟩
  have HBT : Hid (∀ w', W2.grownBy w' (some w.heap.size) → w'.cell? ⟨w1.heap.size, 0, none⟩ = some (.pointer (some ⟨w.heap.size, 0, none⟩)) ∧ w'.cell? ⟨w1.heap.size, 1, none⟩ = some (.string s)) := fun w' hg => ⟨hg.cell (hbox 0 _ rfl) (by intro e; injection e with e; have e' : w1.heap.size = w.heap.size := e; omega), hg.cell (hbox 1 _ rfl) (by intro e; injection e with e; have e' : w1.heap.size = w.heap.size := e; omega)⟩
  have HBL : Hid (∀ w', W2.grownBy w' (some w.heap.size) → Below w.heap.size w w') := fun w' hg => HC2.out.2.1.grown hg HC2.out.2.1.size (fun i hi => by injection hi with hi; omega)
  clear hc1 hb1 hb2 hbox hc2 hz2 hW2
  refine (gaps_any w.heap.size s hs _ _ HC2.out.1).mono ?_
  rintro e w3 ⟨rfl, hc3, hg3⟩
  have HC3 : Hid (CurR w3 w.heap.size s (s.data.toList.dropWhile gapB) ∧ W2.grownBy w3 (some w.heap.size)) := ⟨hc3, hg3⟩
  clear hc3 hg3
  go_wp2
  go_loopg [4] (s.data.toList.dropWhile gapB).length (fun gh v wr => ∃ (cs : List ChV) (a : Option Addr) (n cap : Nat) (g : List UInt8), g.length = gh ∧ v = .slice a n cap ∧ n ≤ 8 ∧ Hid (n = cs.length ∧ PrAt s.data.toList (xsOf cs) g ∧ (∀ c ∈ cs, Slight c) ∧ OwnC wr W2.heap.size (.slice a n cap) cs ∧ CurR wr w.heap.size s g ∧ W2.grownBy wr (some w.heap.size)))
  case atStart => exact ⟨[], none, 0, 0, _, rfl, rfl, by omega, ⟨rfl, prAt_start _, fun c hc => (by cases hc), ownC_nil _ _, HC3.out.1, HC3.out.2⟩⟩
  case round =>
    obtain ⟨cs, a, n, cap, g, hgl, rfl, hn, HI⟩ := hrel
    have hwz : w1.heap.size + 1 ≤ wr.heap.size := by have := HI.out.2.2.2.2.2.size; have := HC2.out.2.2; omega
    obtain ⟨hx0, hx1⟩ := HBT.out wr HI.out.2.2.2.2.2
    by_cases hg0 : g = []
    · have HA : Hid (askL s.data.toList = .ok (xsOf cs)) := by
        have := HI.out.2.1
        rw [hg0] at this
        exact prAt_end this
      have HE : Hid (g.isEmpty = true) := by show _ = _; rw [hg0]; rfl
      clear hg0
      go_wp2_with fail
      refine (rd_end w.heap.size s g _ HI.out.2.2.2.2.1).mono ?_
      rintro e w4 ⟨rfl, q, rfl⟩
      rw [HE.out]
      go_wp2
      go_ret2
      exact ⟨.inl ⟨cs, _, HA, by have := HI.out.1; omega, HI.out.2.2.1, rfl, ⟨World.ownsRow.mono (HI.out.2.2.2.1.below (drewN_at (Below.refl _ _) _)).1 (by have := HC2.out.2.2; omega), fun c hc => World.ownsRow.mono ((HI.out.2.2.2.1.below (drewN_at (Below.refl _ _) _)).2 c hc) (by have := HC2.out.2.2; omega)⟩⟩, drewN_at (HBL.out _ HI.out.2.2.2.2.2) _⟩
    · have HE : Hid (g.isEmpty = false) := by
        show _ = _
        cases g with
        | nil => exact absurd rfl hg0
        | cons x y => rfl
      have HG0 : Hid (g ≠ []) := hg0
      clear hg0
      go_wp2_with fail
      refine (rd_end w.heap.size s g _ HI.out.2.2.2.2.1).mono ?_
      rintro e w4 ⟨rfl, q, rfl⟩
      rw [HE.out]
      have HI4 : Hid (CurR (wr.drewN q) w.heap.size s g ∧ W2.grownBy (wr.drewN q) (some w.heap.size) ∧ OwnC (wr.drewN q) W2.heap.size (.slice a n cap) cs) := ⟨HI.out.2.2.2.2.1.drewN q, grown_trans HI.out.2.2.2.2.2 (grown_drewN _ _ _), HI.out.2.2.2.1.below (drewN_at (Below.refl _ _) _)⟩
      obtain ⟨hy0, hy1⟩ := HBT.out _ HI4.out.2.1
      clear hx0 hx1
      go_wp2_with fail
      refine (challenge_any w.heap.size s hs n (by omega) g _ HI4.out.1).mono ?_
      rintro e w5 ⟨hch, hg5⟩
      have HI5 : Hid (W2.grownBy w5 (some w.heap.size) ∧ OwnC w5 W2.heap.size (.slice a n cap) cs) := ⟨grown_trans HI4.out.2.1 hg5, HI4.out.2.2.grown hg5 (by have := HC2.out.2.2; omega)⟩
      have hz5 : w1.heap.size + 1 ≤ w5.heap.size := by have := HI5.out.1.size; have := HC2.out.2.2; omega
      clear hg5 hy0 hy1
      rcases hch with ⟨c, u, hC, hsm, hz6, hz7, rfl, hown, hc5⟩ | ⟨en, left, ev, q1, q2, hC, rfl, hat⟩
      · have HCC : Hid (chalL n g = .ok (c.x, u)) := hC
        have hn8 : n < 8 := chal_few hC
        have hrz : W2.heap.size ≤ (wr.drewN q).heap.size := HI4.out.2.1.size
        have hb6 : Below w5.heap.size w5 (w5.alloc (.cells #[.string c.x.scheme, .string c.x.token, .slice c.a c.len c.cap] 38)) := (Below.refl _ _).alloc (Nat.le_refl _) _
        have HI6 : Hid (W2.grownBy (w5.alloc (.cells #[.string c.x.scheme, .string c.x.token, .slice c.a c.len c.cap] 38)) (some w.heap.size) ∧ OwnC (w5.alloc (.cells #[.string c.x.scheme, .string c.x.token, .slice c.a c.len c.cap] 38)) W2.heap.size (.slice a n cap) cs ∧ OwnP (w5.alloc (.cells #[.string c.x.scheme, .string c.x.token, .slice c.a c.len c.cap] 38)) W2.heap.size (.slice c.a c.len c.cap) c.x.params ∧ CurR (w5.alloc (.cells #[.string c.x.scheme, .string c.x.token, .slice c.a c.len c.cap] 38)) w.heap.size s u) := ⟨grown_trans HI5.out.1 (grown_below hb6 _), HI5.out.2.below hb6, OwnP.below (World.ownsRow.mono hown hrz) hb6, hc5.below hb6⟩
        have HSL : Hid (Slight c) := ⟨hsm, hz6, hz7⟩
        have HNX : Hid (PrAt s.data.toList (xsOf (cs ++ [c])) (u.dropWhile gapB)) := by
          show PrAt _ _ _
          rw [xsOf_snoc]
          exact prAt_next HI.out.2.1 HG0.out (by rw [xsOf_len, ← HI.out.1]; exact hC)
        have HLN : Hid ((u.dropWhile gapB).length < g.length) := by
          have h1 := chalL_len _ _ _ _ hC
          have h2 := dw_len gapB u
          show _ < _
          omega
        clear hC hown hc5 hb6 hrz
        go_wp2_with (at_builtin; refine wp_appc rfl _ _ rfl W2.heap.size (w5.alloc (.cells #[.string c.x.scheme, .string c.x.token, .slice c.a c.len c.cap] 38)) (.slice a n cap) cs n rfl HI6.out.2.1 HI.out.1.symm (by omega) (by have := HC2.out.2.2; simp; omega) c HI6.out.2.2.1 (w5.heap.size + 1) (by simp) rfl ?_; intro g7 cap7 w7 hown7 hg7 hlt7; have HI7 : Hid (OwnC w7 W2.heap.size (.slice (some ⟨g7, 0, none⟩) (n + 1) cap7) (cs ++ [c]) ∧ CurR w7 w.heap.size s u ∧ W2.grownBy w7 (some w.heap.size)) := ⟨hown7, (HI6.out.2.2.2.below ((Below.refl _ _).alloc (Nat.le_refl _) _)).grown hg7 (fun e => by have := (HI6.out.2.1.lt _ e.symm).1; have := HC2.out.2.2; omega), grown_other (grown_trans HI6.out.1 (grown_alloc _ _ _)) hg7 (fun k e => (HI6.out.2.1.lt _ e).1)⟩; clear hown7 hg7 hlt7; obtain ⟨hx0, hx1⟩ := HBT.out w7 HI7.out.2.2)
        refine (gaps_any w.heap.size s hs _ _ HI7.out.2.1).mono ?_
        rintro e w8 ⟨rfl, hc8, hg8⟩
        have HI8 : Hid (OwnC w8 W2.heap.size (.slice (some ⟨g7, 0, none⟩) (n + 1) cap7) (cs ++ [c]) ∧ CurR w8 w.heap.size s (u.dropWhile gapB) ∧ W2.grownBy w8 (some w.heap.size)) := ⟨HI7.out.1.grown hg8 (by have := HC2.out.2.2; omega), hc8, grown_trans HI7.out.2.2 hg8⟩
        clear hc8 hg8 hx0 hx1
        go_wp2
        go_roundg (u.dropWhile gapB).length
        case measure => have := HLN.out; omega
        case rel => exact ⟨cs ++ [c], _, n + 1, cap7, _, rfl, rfl, by omega, ⟨by rw [List.length_append, ← HI.out.1]; rfl, HNX.out, fun d hd => (by rcases List.mem_append.1 hd with hd | hd; exact HI.out.2.2.1 d hd; rw [List.mem_singleton.1 hd]; exact HSL.out), HI8.out.1, HI8.out.2.1, HI8.out.2.2⟩⟩
      · have HA : Hid (askL s.data.toList = .error (en, left)) := prAt_err HI.out.2.1 HG0.out (by rw [xsOf_len, ← HI.out.1]; exact hC)
        obtain ⟨eg, rfl, eg0, eg1, egB, egl⟩ := hat
        have HAT : Hid (IsAt w5 (.iface 79 (.pointer (some ⟨eg, 0, none⟩))) (wr.drewN q).heap.size en ((s.size - left : Nat) : Int)) := ⟨eg, rfl, eg0, eg1, egB, egl⟩
        have HWQ : Hid (w.heap.size + 1 ≤ (wr.drewN q).heap.size) := by show _ ≤ wr.heap.size; omega
        clear hC eg0 eg1
        go_wp2
        go_ret2
        exact ⟨.inr ⟨en, left, _, HA, rfl, (HAT.out.below ((Below.refl _ _).alloc (Nat.le_refl _) _)).mono HWQ.out⟩, (HBL.out _ HI5.out.1).trans (((Below.refl _ _).alloc (Nat.le_refl _) _).mono (by omega))⟩
end Go.Proofs.YtgajhmmildbkfaaGreatDoor

/- The scheme that a challenge's sums are of, by the program. -/
namespace Go.Proofs.YtgajhmmildbkfaaGreatDoor
open Go.RowKit

set_option maxHeartbeats 1000000 in
theorem isWord_any (v word : ByteArray) (hv : v.size ≤ 4000) (hw : word.size ≤ 4000) (c : Nat) (w : World) (hc : w.cell? ⟨c, 0, none⟩ = some (.string v)) :
    Calls Tryz.prog 94 #[.string word, .pointer (some ⟨c, 0, none⟩)] w fun e w' => e = .returned (.bool (sameL v.data.toList word.data.toList)) ∧ Below w.heap.size w w' := by
  go_enter Tryz.func94, Tryz.ntmps94
  go_wp2_with fail
  refine (same_any _ _ hv hw _).mono ?_
  rintro e w2 ⟨rfl, hb2⟩
  go_wp2
  go_ret
  exact ⟨rfl, hb2⟩
theorem few_get {ps : List Par} {n : List UInt8} {v : ByteArray} (hf : Few ps) (h : getL ps n = some v) : v.size ≤ 3000 := by
  unfold getL at h
  obtain ⟨p, hp, rfl⟩ := Option.map_eq_some_iff.1 h
  exact (hf.2 p (List.mem_of_find?_eq_some hp)).2
set_option maxRecDepth 100000 in
set_option maxHeartbeats 2000000 in
theorem algorithm_any (c : ChV) (hf : Few c.x.params) (w : World) (hx : ChOk w c) :
    Calls Tryz.prog 66 #[.agg #[.string c.x.scheme, .string c.x.token, .slice c.a c.len c.cap]] w fun e w' => e = .returned (.tuple #[.int .i64 ((algoL (getL c.x.params kAlgo)).1 : Int), .bool (algoL (getL c.x.params kAlgo)).2]) ∧ Below w.heap.size w w' := by
  have hb1 : Below w.heap.size w (w.alloc (.cells #[.string c.x.scheme, .string c.x.token, .slice c.a c.len c.cap] 38)) := (Below.refl _ _).alloc (Nat.le_refl _) _
  have HX : Hid (ChOk (w.alloc (.cells #[.string c.x.scheme, .string c.x.token, .slice c.a c.len c.cap] 38)) c) := hx.below hb1
  have HF : Hid (Few c.x.params) := hf
  have hget := get_any c ⟨#[97, 108, 103, 111, 114, 105, 116, 104, 109]⟩ hf (by decide) _ HX.out
  have hen := enters_at Tryz.func94 (by kernel_rfl) rfl
  clear hx hf
  rcases hg : getL c.x.params kAlgo with _ | v
  · have HG : Hid (getL c.x.params (⟨#[97, 108, 103, 111, 114, 105, 116, 104, 109]⟩ : ByteArray).data.toList = none) := hg
    rw [HG.out] at hget
    have hget' : Calls Tryz.prog 13 #[.agg #[.string c.x.scheme, .string c.x.token, .slice c.a c.len c.cap], .string ⟨#[97, 108, 103, 111, 114, 105, 116, 104, 109]⟩] (w.alloc (.cells #[.string c.x.scheme, .string c.x.token, .slice c.a c.len c.cap] 38)) fun e w' => e = .returned (.tuple #[.string ⟨#[]⟩, .bool false]) ∧ Below (w.alloc (.cells #[.string c.x.scheme, .string c.x.token, .slice c.a c.len c.cap] 38)).heap.size (w.alloc (.cells #[.string c.x.scheme, .string c.x.token, .slice c.a c.len c.cap] 38)) w' := hget
    clear hget hg
    go_enter Tryz.func66, Tryz.ntmps66
    go_wp2_with (go_at_call 13; refine hget'.mono ?_; rintro e w2 ⟨rfl, hb2⟩)
    go_ret2
    exact ⟨rfl, (hb1.trans (hb2.mono (by simp))).alloc (Nat.le_trans (by simp) hb2.size) _⟩
  · have hv3 : v.size ≤ 3000 := few_get HF.out hg
    have HG : Hid (getL c.x.params (⟨#[97, 108, 103, 111, 114, 105, 116, 104, 109]⟩ : ByteArray).data.toList = some v) := hg
    rw [HG.out] at hget
    have hget' : Calls Tryz.prog 13 #[.agg #[.string c.x.scheme, .string c.x.token, .slice c.a c.len c.cap], .string ⟨#[97, 108, 103, 111, 114, 105, 116, 104, 109]⟩] (w.alloc (.cells #[.string c.x.scheme, .string c.x.token, .slice c.a c.len c.cap] 38)) fun e w' => e = .returned (.tuple #[.string v, .bool true]) ∧ Below (w.alloc (.cells #[.string c.x.scheme, .string c.x.token, .slice c.a c.len c.cap] 38)).heap.size (w.alloc (.cells #[.string c.x.scheme, .string c.x.token, .slice c.a c.len c.cap] 38)) w' := hget
    clear hget hg
    obtain ⟨A, HA⟩ : ∃ A, Hid (algoL (some v) = A) := ⟨_, rfl⟩
    rw [HA.out]
    go_enter Tryz.func66, Tryz.ntmps66
    go_wp2_with (go_at_call 13; refine hget'.mono ?_; rintro e w2 ⟨rfl, hb2⟩)
    have HB3 : Hid (Below w.heap.size w (w2.alloc (.cells #[.string v] 9))) := (hb1.trans (hb2.mono (by simp))).alloc (Nat.le_trans (by simp) hb2.size) _
    have hc3 : (w2.alloc (.cells #[.string v] 9)).cell? ⟨w2.heap.size, 0, none⟩ = some (.string v) := World.cell?_alloc_mark _ _ _ _ _
    have hlt3 : w2.heap.size < (w2.alloc (.cells #[.string v] 9)).heap.size := by simp
    generalize hW3 : w2.alloc (.cells #[.string v] 9) = W3 at HB3 hc3 hlt3 ⊢
    clear hW3
    refine (isWord_any v ⟨#[77, 68, 53]⟩ (by omega) (by decide) _ _ hc3).mono ?_
    rintro e w4 ⟨rfl, hb4⟩
    have HB4 : Hid (Below w.heap.size w w4) := HB3.out.trans (hb4.mono HB3.out.size)
    have hc4 := (hb4.cell (p := ⟨w2.heap.size, 0, none⟩) hlt3).trans hc3
    have hlt4 := Nat.lt_of_lt_of_le hlt3 hb4.size
    clear hb4 hc3
    cases h4 : sameL v.data.toList (⟨#[77, 68, 53]⟩ : ByteArray).data.toList
    case true =>
      have HE : Hid (A = (2, false)) := by show _ = _; rw [← HA.out]; unfold algoL; simp only [];  rw [if_pos (show sameL v.data.toList kMd5 = true from h4)]
      go_wp2
      go_ret2
      exact ⟨by rw [HE.out]; rfl, HB4.out⟩
    case false =>
      go_wp2_with fail
      refine (isWord_any v ⟨#[77, 68, 53, 45, 115, 101, 115, 115]⟩ (by omega) (by decide) _ _ hc4).mono ?_
      rintro e w5 ⟨rfl, hb5⟩
      have HB5 : Hid (Below w.heap.size w w5) := HB4.out.trans (hb5.mono HB4.out.size)
      have hc5 := (hb5.cell (p := ⟨w2.heap.size, 0, none⟩) hlt4).trans hc4
      have hlt5 := Nat.lt_of_lt_of_le hlt4 hb5.size
      clear hb5 hc4
      cases h5 : sameL v.data.toList (⟨#[77, 68, 53, 45, 115, 101, 115, 115]⟩ : ByteArray).data.toList
      case true =>
        have HE : Hid (A = (2, true)) := by show _ = _; rw [← HA.out]; unfold algoL; simp only []; rw [if_neg (by rw [show sameL v.data.toList kMd5 = false from h4]; simp)]; rw [if_pos (show sameL v.data.toList kMd5s = true from h5)]
        go_wp2
        go_ret2
        exact ⟨by rw [HE.out]; rfl, HB5.out⟩
      case false =>
        go_wp2_with fail
        refine (isWord_any v ⟨#[83, 72, 65, 45, 50, 53, 54]⟩ (by omega) (by decide) _ _ hc5).mono ?_
        rintro e w6 ⟨rfl, hb6⟩
        have HB6 : Hid (Below w.heap.size w w6) := HB5.out.trans (hb6.mono HB5.out.size)
        have hc6 := (hb6.cell (p := ⟨w2.heap.size, 0, none⟩) hlt5).trans hc5
        have hlt6 := Nat.lt_of_lt_of_le hlt5 hb6.size
        clear hb6 hc5
        cases h6 : sameL v.data.toList (⟨#[83, 72, 65, 45, 50, 53, 54]⟩ : ByteArray).data.toList
        case true =>
          have HE : Hid (A = (3, false)) := by show _ = _; rw [← HA.out]; unfold algoL; simp only []; rw [if_neg (by rw [show sameL v.data.toList kMd5 = false from h4]; simp)]; rw [if_neg (by rw [show sameL v.data.toList kMd5s = false from h5]; simp)]; rw [if_pos (show sameL v.data.toList kSha = true from h6)]
          go_wp2
          go_ret2
          exact ⟨by rw [HE.out]; rfl, HB6.out⟩
        case false =>
          go_wp2_with fail
          refine (isWord_any v ⟨#[83, 72, 65, 45, 50, 53, 54, 45, 115, 101, 115, 115]⟩ (by omega) (by decide) _ _ hc6).mono ?_
          rintro e w7 ⟨rfl, hb7⟩
          have HB7 : Hid (Below w.heap.size w w7) := HB6.out.trans (hb7.mono HB6.out.size)
          have hc7 := (hb7.cell (p := ⟨w2.heap.size, 0, none⟩) hlt6).trans hc6
          have hlt7 := Nat.lt_of_lt_of_le hlt6 hb7.size
          clear hb7 hc6
          cases h7 : sameL v.data.toList (⟨#[83, 72, 65, 45, 50, 53, 54, 45, 115, 101, 115, 115]⟩ : ByteArray).data.toList
          case true =>
            have HE : Hid (A = (3, true)) := by show _ = _; rw [← HA.out]; unfold algoL; simp only []; rw [if_neg (by rw [show sameL v.data.toList kMd5 = false from h4]; simp)]; rw [if_neg (by rw [show sameL v.data.toList kMd5s = false from h5]; simp)]; rw [if_neg (by rw [show sameL v.data.toList kSha = false from h6]; simp)]; rw [if_pos (show sameL v.data.toList kShas = true from h7)]
            go_wp2
            go_ret2
            exact ⟨by rw [HE.out]; rfl, HB7.out⟩
          case false =>
            have HE : Hid (A = (0, false)) := by show _ = _; rw [← HA.out]; unfold algoL; simp only []; rw [if_neg (by rw [show sameL v.data.toList kMd5 = false from h4]; simp)]; rw [if_neg (by rw [show sameL v.data.toList kMd5s = false from h5]; simp)]; rw [if_neg (by rw [show sameL v.data.toList kSha = false from h6]; simp)]; rw [if_neg (by rw [show sameL v.data.toList kShas = false from h7]; simp)]
            go_wp2
            go_ret2
            exact ⟨by rw [HE.out]; rfl, HB7.out⟩
end Go.Proofs.YtgajhmmildbkfaaGreatDoor

/- Rows of texts that lie somewhere. -/
namespace Go.Proofs.YtgajhmmildbkfaaGreatDoor
open Go.RowKit

/-- A row of texts that lies somewhere. -/
structure Strs (w : World) (a0 : Option Addr) (len b off : Nat) (xs : List ByteArray) : Prop where
  len_eq : xs.length = len
  lies : 0 < len → a0 = some ⟨b, off, none⟩ ∧ b < w.heap.size
  cells : ∀ (j : Nat) (x : ByteArray), xs[j]? = some x → w.cell? ⟨b, off + j, none⟩ = some (.string x)
theorem Strs.below {w w' : World} {a0 : Option Addr} {len b off : Nat} {xs : List ByteArray} (h : Strs w a0 len b off xs) (hb : Below w.heap.size w w') : Strs w' a0 len b off xs := by
  refine ⟨h.len_eq, fun h0 => ⟨(h.lies h0).1, Nat.lt_of_lt_of_le (h.lies h0).2 hb.size⟩, fun j x hx => ?_⟩
  have hj := (List.getElem?_eq_some_iff.1 hx).1
  have hl := h.len_eq
  rw [hb.cell (p := ⟨b, off + j, none⟩) (h.lies (by omega)).2]
  exact h.cells j x hx
theorem OwnS.strs {w : World} {B : Nat} {v : Value} {xs : List ByteArray} (h : OwnS w B v xs) : ∃ (a : Option Addr) (cap g : Nat), v = .slice a xs.length cap ∧ Strs w a xs.length g 0 xs := by
  rcases h.2 with ⟨rfl, h0⟩ | ⟨g, cap, cur, rfl, _, hh, _, _, _, ht⟩
  · refine ⟨none, 0, 0, by rw [h0], rfl, fun h1 => absurd h0 (by omega), fun j x hx => ?_⟩
    have := (List.getElem?_eq_some_iff.1 hx).1
    omega
  · refine ⟨_, cap, g, rfl, rfl, fun _ => ⟨rfl, ?_⟩, fun j x hx => ?_⟩
    · rcases Nat.lt_or_ge g w.heap.size with h1 | h1
      · exact h1
      · simp [Array.getElem?_eq_none h1] at hh
    · have hj := World.ownsRow.cells h (g := g) rfl j (.string x) (by rw [List.getElem?_map, hx]; rfl)
      rw [WideShapes.add_plain] at hj
      exact hj
theorem Strs.drewN {w : World} {a0 : Option Addr} {len b off : Nat} {xs : List ByteArray} (h : Strs w a0 len b off xs) (n : Nat) : Strs (w.drewN n) a0 len b off xs := ⟨h.len_eq, h.lies, h.cells⟩
end Go.Proofs.YtgajhmmildbkfaaGreatDoor

/- Whether a text of a row is such a one, by the library's own functions, with a closure that asks. -/
namespace Go.Proofs.YtgajhmmildbkfaaGreatDoor
open Go.RowKit

set_option maxRecDepth 100000 in
set_option maxHeartbeats 2000000 in
theorem indexS_any (K : Nat) (c : Value) (f : ByteArray → Bool) (xs : List ByteArray) (a0 : Option Addr) (len cap b off : Nat) (hlen : len ≤ 1000000) (w : World) (hx : Strs w a0 len b off xs)
    (says : ∀ w', Below w.heap.size w w' → ∀ x ∈ xs, Calls Tryz.prog K #[.string x, c] w' fun e w'' => e = .returned (.bool (f x)) ∧ Below w'.heap.size w' w'')
    (hen : ∀ (args : Array Value) (w : World), (callFunc K args).run Tryz.prog w = .ok (.enter K args) w) :
    Calls Tryz.prog 120 #[.slice a0 len cap, .func (.func K) #[] #[c]] w fun e w' => (∃ r : Int, e = .returned (.int .i64 r) ∧ decide (0 ≤ r) = xs.any f) ∧ Below w.heap.size w w' := by
  have HX : Hid (Strs w a0 len b off xs) := hx
  have hl := hx.len_eq
  clear hx
  go_enter Tryz.func120, Tryz.ntmps120
  go_wp2
  go_loopw [8] (fun i wr => ∃ (k : Nat), k ≤ len ∧ i = .int .i64 k ∧ Hid ((xs.take k).any f = false) ∧ Below w.heap.size w wr) (fun i _ => len - (intOf i).toNat)
  case atStart => exact ⟨0, Nat.zero_le _, rfl, rfl, Below.refl _ _⟩
  case round =>
    obtain ⟨k, hk, rfl, HK, hb⟩ := hrel
    by_cases hlt : k < len
    · obtain ⟨x, hxk⟩ : ∃ x, xs[k]? = some x := ⟨xs[k]'(by omega), List.getElem?_eq_getElem (by omega)⟩
      have HXK : Hid (xs[k]? = some x) := hxk
      have HM : Hid (x ∈ xs) := List.mem_of_getElem? hxk
      have hs := says wr hb x HM.out
      obtain ⟨ha0, hbl⟩ := HX.out.lies (by omega)
      subst ha0
      have hcell : wr.cell? ⟨b, off + k, none⟩ = some (.string x) := (hb.cell (p := ⟨b, off + k, none⟩) hbl).trans (HX.out.cells k x hxk)
      have hbs : w.heap.size ≤ wr.heap.size := hb.size
      clear hxk
      cases hf : f x
      · have HS : Hid ((xs.take (k + 1)).any f = false) := by
          show _ = _
          obtain ⟨hk1, e⟩ := List.getElem?_eq_some_iff.1 HXK.out
          rw [List.take_succ_eq_append_getElem hk1, List.any_append, HK.out, e]
          simp [hf]
        go_wp2_with fail
        refine hs.mono ?_
        rintro e w2 ⟨rfl, hb2⟩
        rw [hf]
        go_wp2
        go_roundw
        case rel => exact ⟨k + 1, by omega, by go_num, HS, hb.trans (hb2.mono hbs)⟩
        case measure => simp [intOf]; omega
      · have HS : Hid (xs.any f = true) := List.any_eq_true.2 ⟨x, HM.out, hf⟩
        go_wp2_with fail
        refine hs.mono ?_
        rintro e w2 ⟨rfl, hb2⟩
        rw [hf]
        go_wp2
        go_ret
        exact ⟨⟨_, rfl, by rw [HS.out]; exact decide_eq_true (Int.natCast_nonneg _)⟩, hb.trans (hb2.mono hbs)⟩
    · have HS : Hid (xs.any f = false) := by
        have := HK.out
        rw [List.take_of_length_le (by omega)] at this
        exact this
      go_wp2
      go_ret
      exact ⟨⟨_, rfl, by rw [HS.out]; rfl⟩, hb⟩
set_option maxHeartbeats 1000000 in
theorem containsS_any (K : Nat) (c : Value) (f : ByteArray → Bool) (xs : List ByteArray) (a0 : Option Addr) (len cap b off : Nat) (hlen : len ≤ 1000000) (w : World) (hx : Strs w a0 len b off xs)
    (says : ∀ w', Below w.heap.size w w' → ∀ x ∈ xs, Calls Tryz.prog K #[.string x, c] w' fun e w'' => e = .returned (.bool (f x)) ∧ Below w'.heap.size w' w'')
    (hen : ∀ (args : Array Value) (w : World), (callFunc K args).run Tryz.prog w = .ok (.enter K args) w) :
    Calls Tryz.prog 96 #[.slice a0 len cap, .func (.func K) #[] #[c]] w fun e w' => e = .returned (.bool (xs.any f)) ∧ Below w.heap.size w w' := by
  go_enter Tryz.func96, Tryz.ntmps96
  go_wp2_with (go_at_call 120; refine (indexS_any K c f xs a0 len cap b off hlen _ hx says hen).mono ?_; rintro e w' ⟨⟨r, rfl, hr⟩, hb⟩)
  go_ret
  exact ⟨by first | rfl | (rw [hr]; rfl), hb⟩
end Go.Proofs.YtgajhmmildbkfaaGreatDoor
