/- Texts of one claim, joined: each begins with what it proves. -/
import Derived.Test.YtgajhmmildbkfaaGreatDoorJo6
import Derived.Test.YtgajhmmildbkfaaGreatDoorJo4
import Derived.Test.YtgajhmmildbkfaaGreatDoorJo3
import Derived.Test.YtgajhmmildbkfaaGreatDoorJo7
import Derived.Test.YtgajhmmildbkfaaGreatDoorJo1
import Derived.Test.YtgajhmmildbkfaaGreatDoorJo5
import Derived.Deep.LoopGhost
import Derived.Deep.Cut
import Derived.Deep.CutRange
import Derived.Deep.DeepCutAuto
import Derived.Lib.SlTrimSet
import Derived.Lib.Index
import Derived.Shelf.Strings.Split
import Derived.RangeFuncNested
import Derived.RangeFuncBound
import Derived.RangeFuncCalls
import Derived.RangeFuncLeaves
import Derived.Shelf.Abstract
import Derived.Shelf.RegionOpen
import Derived.OwnWalkIn
import Derived.TacticsInMore
import Derived.LoopNIn
import Derived.LoopIn
import Derived.RangeFuncBox
import Derived.Maps.AppendAt
import Derived.Lib.AppendStr
import Derived.Deep.Onto
/- The words of a list, by the program. -/
namespace Go.Proofs.YtgajhmmildbkfaaGreatDoor
open Go.RowKit

/-- What is known of the whole list behind k bytes. -/
def ListAt (l : List UInt8) (ws : List (List UInt8)) (k : Nat) : Prop := listP 0 (splitL 44 l) = (listP k (splitL 44 (l.drop k))).map (ws ++ ·)
theorem drop_drop' (l : List UInt8) (a b : Nat) : (l.drop a).drop b = l.drop (a + b) := by rw [List.drop_drop]
theorem consW_nil (w : List UInt8) : consW w [] = if w = [] then [] else [w] := rfl
theorem consW_app (ws : List (List UInt8)) (w : List UInt8) (r : List (List UInt8)) : ws ++ consW w r = (ws ++ consW w []) ++ r := by
  unfold consW
  split <;> simp
theorem map_map_ex (x : Except Nat (List (List UInt8))) (f g : List (List UInt8) → List (List UInt8)) : (x.map f).map g = x.map fun y => g (f y) := by cases x <;> rfl
theorem listAt_end {l : List UInt8} {ws : List (List UInt8)} {k : Nat} (h : ListAt l ws k) (hr : restP (l.drop k) = []) : listP 0 (splitL 44 l) = .ok (ws ++ consW (wordP (l.drop k)) []) := by
  unfold ListAt at h
  rw [h, list_end _ _ hr]
  rfl
theorem listAt_more {l t : List UInt8} {ws : List (List UInt8)} {k : Nat} (h : ListAt l ws k) (hr : restP (l.drop k) = 44 :: t) (m : Nat) (hm : l.drop m = t) (hk : m = k + ((l.drop k).length - t.length)) : ListAt l (ws ++ consW (wordP (l.drop k)) []) m := by
  unfold ListAt at *
  rw [h, list_more _ _ _ hr, map_map_ex, hm, hk]
  congr 1
  funext y
  rw [consW_app]
theorem listAt_bad {l t : List UInt8} {c : UInt8} {ws : List (List UInt8)} {k : Nat} (h : ListAt l ws k) (hr : restP (l.drop k) = c :: t) (hc : c ≠ 44) : listP 0 (splitL 44 l) = .error (k + ((l.drop k).length - (restP (l.drop k)).length)) := by
  unfold ListAt at h
  rw [h, list_bad _ _ _ _ hr hc]
  rfl
/-- Where the word, and what stands behind it, begin. -/
theorem rest_at (l : List UInt8) (k : Nat) :
    wordP (l.drop k) = (l.drop (k + runL blankB (l.drop k))).takeWhile tokB ∧
    restP (l.drop k) = l.drop (k + runL blankB (l.drop k) + runL tokB (l.drop (k + runL blankB (l.drop k))) + runL blankB (l.drop (k + runL blankB (l.drop k) + runL tokB (l.drop (k + runL blankB (l.drop k)))))) := by
  have e1 : (l.drop k).dropWhile blankB = l.drop (k + runL blankB (l.drop k)) := by rw [← drop_runL, drop_drop']
  have e2 : (l.drop (k + runL blankB (l.drop k))).dropWhile tokB = l.drop (k + runL blankB (l.drop k) + runL tokB (l.drop (k + runL blankB (l.drop k)))) := by rw [← drop_runL, drop_drop']
  refine ⟨?_, ?_⟩
  · unfold wordP
    rw [e1]
  · unfold restP
    rw [e1, e2, ← drop_runL, drop_drop']
def texts (xs : List ByteArray) : List (List UInt8) := xs.map (·.data.toList)
theorem texts_snoc (xs : List ByteArray) (t : ByteArray) (w : List UInt8) (ht : t.data.toList = w) (h : t.size ≠ 0) : texts (xs ++ [t]) = texts xs ++ consW w [] := by
  have hw : w ≠ [] := by
    rw [← ht]
    intro e
    have := len_data t
    rw [e] at this
    exact h this.symm
  unfold texts consW
  rw [List.map_append, List.map_singleton, ht, if_neg hw]
theorem texts_same (xs : List ByteArray) (t : ByteArray) (w : List UInt8) (ht : t.data.toList = w) (h : t.size = 0) : texts xs = texts xs ++ consW w [] := by
  have hw : w = [] := by
    rw [← ht]
    exact List.eq_nil_of_length_eq_zero (by rw [len_data]; exact h)
  unfold consW
  rw [if_pos hw, List.append_nil]
theorem empty_at {s : ByteArray} (h : s.size = 0) : s = ⟨#[]⟩ := by
  apply ByteArray.ext
  exact Array.eq_empty_of_size_eq_zero h
theorem not_empty_at {s : ByteArray} (h : s.size ≠ 0) : s.toList.isEmpty = false := by
  rw [ByteArray.toList_eq]
  cases e : s.data.toList with
  | nil =>
    have := len_data s
    rw [e] at this
    exact absurd this.symm h
  | cons x r => rfl
theorem cells_at (W : World) (cs : Array Value) (t : TypeId) (j : Nat) : (W.alloc (.cells cs t)).cell? ⟨W.heap.size, j, none⟩ = cs[j]? := World.cell?_alloc_mark _ _ _ _ _
/-- What List answers. -/
def LstAns (s : ByteArray) (B : Nat) (e : Ending) (w' : World) : Prop :=
  (∃ (xs : List ByteArray) (v : Value), listP 0 (splitL 44 s.data.toList) = .ok (texts xs) ∧ xs.length ≤ 40 ∧ e = .returned (.tuple #[v, .nilIface]) ∧ OwnS w' B v xs) ∨
  (∃ xs : List ByteArray, listP 0 (splitL 44 s.data.toList) = .ok (texts xs) ∧ 40 < xs.length ∧ e = .returned (.tuple #[.slice none 0 0, .iface 64 (.int .i64 4)])) ∨
  (∃ p g : Nat, listP 0 (splitL 44 s.data.toList) = .error p ∧ e = .returned (.tuple #[.slice none 0 0, .iface 79 (.pointer (some ⟨g, 0, none⟩))]) ∧ w'.cell? ⟨g, 0, none⟩ = some (.int .i64 3) ∧ w'.cell? ⟨g, 1, none⟩ = some (.int .i64 (p : Int)) ∧ B ≤ g)
set_option maxRecDepth 100000 in
set_option maxHeartbeats 4000000 in
theorem list_any (s : ByteArray) (hs : s.size ≤ 20000) (w : World) :
    Calls Tryz.prog 17 #[.string s] w fun e w' => LstAns s (w.heap.size + 1) e w' ∧ Below w.heap.size w w' := by
  go_enter Tryz.func17, Tryz.ntmps17
  go_wp2_with (go_at_call 19; refine (on_any s _).mono ?_; rintro e w1 ⟨rfl, hc1, hb1, hz1⟩)
  have HC1 : Hid (Cur w1 w.heap.size s 0) := hc1
  clear hc1
  go_loopg [4] s.size (fun gh v wr => ∃ (k n cap : Nat) (a : Option Addr) (xs : List ByteArray), s.size - k = gh ∧ k ≤ s.size ∧ n ≤ 41 ∧ v = .slice a n cap ∧ Hid (OwnS wr (w.heap.size + 1) (.slice a n cap) (xs.take 41) ∧ (xs.take 41).length = n ∧ ListAt s.data.toList (texts xs) k ∧ Cur wr w.heap.size s k) ∧ Below w.heap.size w wr ∧ w.heap.size < wr.heap.size)
  case atStart => exact ⟨0, 0, 0, none, [], by omega, Nat.zero_le _, by omega, rfl, ⟨ownS_nil _ _, rfl, by unfold ListAt; rw [List.drop_zero]; cases listP 0 (splitL 44 s.data.toList) <;> rfl, HC1⟩, hb1, hz1⟩
  case round =>
    obtain ⟨k, n, cap, a, xs, hgk, hk, hn, rfl, HO, hb, hz⟩ := hrel
    obtain ⟨eW, eR⟩ := rest_at s.data.toList k
    obtain ⟨k1, HK1⟩ : ∃ k1, Hid (k + runL blankB (s.data.toList.drop k) = k1) := ⟨_, rfl⟩
    rw [HK1.out] at eW eR
    obtain ⟨k2, HK2⟩ : ∃ k2, Hid (k1 + runL tokB (s.data.toList.drop k1) = k2) := ⟨_, rfl⟩
    rw [HK2.out] at eR
    obtain ⟨k3, HK3⟩ : ∃ k3, Hid (k2 + runL blankB (s.data.toList.drop k2) = k3) := ⟨_, rfl⟩
    rw [HK3.out] at eR
    have EW : Hid (wordP (s.data.toList.drop k) = (s.data.toList.drop k1).takeWhile tokB) := eW
    have ER : Hid (restP (s.data.toList.drop k) = s.data.toList.drop k3) := eR
    have hk1 : k1 ≤ s.size := by rw [← HK1.out]; exact run_rest_le _ s k hk
    have hk2 : k2 ≤ s.size := by rw [← HK2.out]; exact run_rest_le _ s k1 hk1
    have hk3 : k3 ≤ s.size := by rw [← HK3.out]; exact run_rest_le _ s k2 hk2
    have hkk : k ≤ k1 ∧ k1 ≤ k2 ∧ k2 ≤ k3 := ⟨by rw [← HK1.out]; omega, by rw [← HK2.out]; omega, by rw [← HK3.out]; omega⟩
    have HGK : Hid (s.size - k = gk) := hgk
    have HKK : Hid (k ≤ k1 ∧ k1 ≤ k2 ∧ k2 ≤ k3) := hkk
    clear eW eR hgk hkk HC1 hb1 hz1
    go_wp2_with fail
    refine (blanks_any w.heap.size s (by omega) k _ HO.out.2.2.2).mono ?_
    rintro e w2 ⟨rfl, hc2, hg2⟩
    rw [HK1.out] at hc2
    have HC2 : Hid (Cur w2 w.heap.size s k1 ∧ OwnS w2 (w.heap.size + 1) (.slice a n cap) (xs.take 41)) := ⟨hc2, HO.out.1.grown hg2 (by omega)⟩
    have hb2 : Below w.heap.size w w2 := hb.grown hg2 (by omega) (fun i hi => by injection hi with hi; omega)
    have hz2 : w.heap.size < w2.heap.size := Nat.lt_of_lt_of_le hz hg2.size
    clear hc2 hg2
    go_wp2_with fail
    refine (word_any w.heap.size s hs k1 _ HC2.out.1).mono ?_
    rintro e w3 ⟨t, rfl, ht, HT, hc3, hg3⟩
    rw [HK2.out] at hc3
    have HC3 : Hid (Cur w3 w.heap.size s k2 ∧ OwnS w3 (w.heap.size + 1) (.slice a n cap) (xs.take 41)) := ⟨hc3, HC2.out.2.grown hg3 (by omega)⟩
    have hb3 : Below w.heap.size w w3 := hb2.grown hg3 (by omega) (fun i hi => by injection hi with hi; omega)
    have hz3 : w.heap.size < w3.heap.size := Nat.lt_of_lt_of_le hz2 hg3.size
    have HTW : Hid (t.data.toList = wordP (s.data.toList.drop k)) := by show _ = _; rw [HT.out, EW.out]
    clear hc3 hg3 ht hb hz hb2 hz2
    obtain ⟨q, HQ⟩ : ∃ q : Bool, Hid (decide (t.size ≠ 0 ∧ n ≤ 40) = q) := ⟨_, rfl⟩
    go_upto_region 5 with fail
    go_cut [19] (fun v wc => v = .bool q ∧ wc = w3)
    case first =>
      by_cases ht0 : t.size = 0
      · have hq : q = false := by rw [← HQ.out]; exact decide_eq_false (fun h => h.1 ht0)
        obtain rfl := empty_at ht0
        subst hq
        go_wp2
        go_meet
        exact ⟨rfl, rfl⟩
      · have hne : t.toList.isEmpty = false := not_empty_at ht0
        by_cases h40 : n ≤ 40
        · have h40' : (n : Int) ≤ 40 := by omega
          have hq : q = true := by rw [← HQ.out]; exact decide_eq_true ⟨ht0, h40⟩
          subst hq
          go_wp2
          go_meet
          exact ⟨rfl, rfl⟩
        · have h40' : ¬ (n : Int) ≤ 40 := by omega
          have hq : q = false := by rw [← HQ.out]; exact decide_eq_false (fun h => h40 h.2)
          subst hq
          go_wp2
          go_meet
          exact ⟨rfl, rfl⟩
    case rest =>
    obtain ⟨rfl, hw3⟩ := hcut
    obtain rfl := hw3.symm
    clear hw3
    go_upto_if 19 with fail
    go_cut [4] (fun v wc => ∃ (n' cap' : Nat) (a' : Option Addr) (ys : List ByteArray), n' ≤ 41 ∧ v = .slice a' n' cap' ∧ Hid (OwnS wc (w.heap.size + 1) (.slice a' n' cap') (ys.take 41) ∧ (ys.take 41).length = n' ∧ texts ys = texts xs ++ consW (wordP (s.data.toList.drop k)) [] ∧ Cur wc w.heap.size s k2) ∧ Below w.heap.size w wc ∧ w.heap.size < wc.heap.size)
    case first =>
      cases q
      · have hor : t.size = 0 ∨ 40 < n := by
          have := of_decide_eq_false HQ.out
          omega
        by_cases ht0 : t.size = 0
        · have HX : Hid (texts xs = texts xs ++ consW (wordP (s.data.toList.drop k)) []) := texts_same xs t _ HTW.out ht0
          go_wp2
          go_meet
          exact ⟨n, cap, a, xs, hn, rfl, ⟨HC3.out.2, HO.out.2.1, HX, HC3.out.1⟩, hb3, hz3⟩
        · have HX : Hid (texts (xs ++ [t]) = texts xs ++ consW (wordP (s.data.toList.drop k)) []) := texts_snoc xs t _ HTW.out ht0
          have HXL2 : Hid ((xs ++ [t]).take 41 = xs.take 41) := by
            show _ = _
            rw [List.take_append_of_le_length]
            have := HO.out.2.1
            rw [List.length_take] at this
            omega
          go_wp2
          go_meet
          exact ⟨n, cap, a, xs ++ [t], hn, rfl, ⟨by rw [HXL2.out]; exact HC3.out.2, by rw [HXL2.out]; exact HO.out.2.1, HX, HC3.out.1⟩, hb3, hz3⟩
      · have hand : t.size ≠ 0 ∧ n ≤ 40 := of_decide_eq_true HQ.out
        obtain ⟨ht0, h40⟩ := hand
        have HX : Hid (texts (xs ++ [t]) = texts xs ++ consW (wordP (s.data.toList.drop k)) []) := texts_snoc xs t _ HTW.out ht0
        have HXL : Hid (xs.take 41 = xs) := List.take_of_length_le (by have := HO.out.2.1; rw [List.length_take] at this; omega)
        have HXL2 : Hid ((xs ++ [t]).take 41 = xs.take 41 ++ [t]) := by
          show _ = _
          rw [HXL.out, List.take_of_length_le]
          have := HO.out.2.1
          rw [HXL.out] at this
          simp
          omega
        go_wp2_with (at_builtin; refine wp_apps rfl _ _ rfl (w.heap.size + 1) w3 (.slice a n cap) (xs.take 41) n rfl HC3.out.2 HO.out.2.1 (by omega) (by omega) t rfl ?_; intro g4 cap4 w4 hown4 hg4 hlt4; have HO4 : Hid (OwnS w4 (w.heap.size + 1) (.slice (some ⟨g4, 0, none⟩) (n + 1) cap4) (xs.take 41 ++ [t]) ∧ Cur w4 w.heap.size s k2) := ⟨hown4, (HC3.out.1.below ((Below.refl _ _).alloc (Nat.le_refl _) _)).grown hg4 (fun e => by have := (HC3.out.2.lt _ e.symm).1; omega)⟩; have hb4 : Below w.heap.size w w4 := (hb3.alloc (by omega) _).grown hg4 (by simp; omega) (fun i hi => by have := (HC3.out.2.lt _ hi).1; omega); have hz4 : w.heap.size < w4.heap.size := (by have := hg4.size; simp at this; omega); clear hown4 hg4 hlt4)
        go_meet
        exact ⟨n + 1, cap4, some ⟨g4, 0, none⟩, xs ++ [t], by omega, rfl, ⟨by rw [HXL2.out]; exact HO4.out.1, by rw [HXL2.out, List.length_append, HO.out.2.1]; rfl, HX, HO4.out.2⟩, hb4, hz4⟩
    case rest =>
      obtain ⟨n', cap', a', ys, hn', rfl, HY, hbc, hzc⟩ := hcut
      go_wp2_with fail
      refine (blanks_any w.heap.size s (by omega) k2 _ HY.out.2.2.2).mono ?_
      rintro e w5 ⟨rfl, hc5, hg5⟩
      rw [HK3.out] at hc5
      have HC5 : Hid (Cur w5 w.heap.size s k3 ∧ OwnS w5 (w.heap.size + 1) (.slice a' n' cap') (ys.take 41)) := ⟨hc5, HY.out.1.grown hg5 (by omega)⟩
      have hb5 : Below w.heap.size w w5 := hbc.grown hg5 (by omega) (fun i hi => by injection hi with hi; omega)
      have hz5 : w.heap.size < w5.heap.size := Nat.lt_of_lt_of_le hzc hg5.size
      clear hc5 hg5 hbc hzc hb3 hz3
      go_wp2_with fail
      refine (end_any w.heap.size s k3 _ HC5.out.1).mono ?_
      rintro e w6 ⟨rfl, nd, rfl⟩
      by_cases hend : k3 = s.size
      · have hE : ((k3 : Int) == (s.size : Int)) = true := by rw [hend]; simp
        rw [hE]
        have HA : Hid (listP 0 (splitL 44 s.data.toList) = .ok (texts ys)) := by
          show _ = _
          rw [HY.out.2.2.1]
          refine listAt_end HO.out.2.2.1 ?_
          rw [ER.out, hend, List.drop_of_length_le (by rw [len_data]; exact Nat.le_refl _)]
        have HL : Hid ((ys.take 41).length = n') := HY.out.2.1
        by_cases hbig : (40 : Int) < (n' : Int)
        · go_wp2
          go_ret2
          refine ⟨.inr (.inl ⟨ys, HA, ?_, rfl⟩), drewN_at hb5 _⟩
          have := HL.out
          rw [List.length_take] at this
          omega
        · have HXL : Hid (ys.take 41 = ys) := List.take_of_length_le (by have := HL.out; rw [List.length_take] at this; omega)
          go_wp2
          go_ret2
          refine ⟨.inl ⟨ys, _, HA, ?_, rfl, ?_⟩, drewN_at hb5 _⟩
          · have := HL.out
            rw [HXL.out] at this
            omega
          · have := HC5.out.2
            rw [HXL.out] at this
            exact this
      · have hE : ((k3 : Int) == (s.size : Int)) = false := beq_eq_false_iff_ne.2 (by omega)
        rw [hE]
        have hlt3 : k3 < s.size := by omega
        obtain ⟨c, hcd⟩ : ∃ c : UInt8, s[k3] = c := ⟨_, rfl⟩
        have HD : Hid (restP (s.data.toList.drop k) = c :: s.data.toList.drop (k3 + 1)) := by
          show _ = _
          rw [ER.out, List.drop_eq_getElem_cons (by rw [len_data]; exact hlt3), ← hcd]
          rfl
        by_cases h44 : c = 44
        · subst h44
          have HA : Hid (ListAt s.data.toList (texts ys) (k3 + 1)) := by
            show ListAt _ _ _
            rw [HY.out.2.2.1]
            refine listAt_more HO.out.2.2.1 HD.out _ rfl ?_
            rw [List.length_drop, List.length_drop, len_data]
            have := HKK.out
            omega
          go_wp2_with fail
          refine (mark_yes w.heap.size s (by omega) k3 hlt3 44 hcd _ (HC5.out.1.drewN nd)).mono ?_
          rintro e w7 ⟨rfl, hc7, hg7⟩
          have HC7 : Hid (Cur w7 w.heap.size s (k3 + 1) ∧ OwnS w7 (w.heap.size + 1) (.slice a' n' cap') (ys.take 41)) := ⟨hc7, OwnS.grown (w := w5.drewN nd) HC5.out.2 hg7 (by omega)⟩
          have hb7 : Below w.heap.size w w7 := (drewN_at hb5 nd).grown hg7 (by show w.heap.size ≤ w5.heap.size; omega) (fun i hi => by injection hi with hi; omega)
          have hz7 : w.heap.size < w7.heap.size := Nat.lt_of_lt_of_le hz5 hg7.size
          clear hc7 hg7
          go_wp2
          go_roundg (s.size - (k3 + 1))
          case measure => have := HKK.out; have := HGK.out; omega
          case rel => exact ⟨k3 + 1, n', cap', a', ys, rfl, by omega, hn', rfl, ⟨HC7.out.2, HY.out.2.1, HA, HC7.out.1⟩, hb7, hz7⟩
        · have HA : Hid (listP 0 (splitL 44 s.data.toList) = .error k3) := by
            show _ = _
            rw [listAt_bad HO.out.2.2.1 HD.out h44, ER.out, List.length_drop, List.length_drop, len_data]
            congr 1
            have := HKK.out
            omega
          go_wp2_with fail
          refine (mark_other w.heap.size s k3 hlt3 44 (by rw [hcd]; exact h44) _ (HC5.out.1.drewN nd)).mono ?_
          rintro e w7 ⟨rfl, ne, rfl⟩
          go_wp2_with fail
          refine (at_any w.heap.size s k3 _ (HC5.out.1.drewN (nd + ne))).mono ?_
          rintro e w8 ⟨rfl, rfl⟩
          go_wp2
          go_ret2
          refine ⟨.inr (.inr ⟨k3, _, HA, rfl, ?_, ?_, ?_⟩), ?_⟩
          · exact cells_at _ _ _ 0
          · exact cells_at _ _ _ 1
          · exact hz5
          · exact (drewN_at hb5 (nd + ne)).alloc (by show w.heap.size ≤ w5.heap.size; omega) _
end Go.Proofs.YtgajhmmildbkfaaGreatDoor

/- A part of a list, trimmed: what it has to do with its word and with what stands behind it. -/
namespace Go.Proofs.YtgajhmmildbkfaaGreatDoor

def trimW (p : List UInt8) : List UInt8 := ((p.dropWhile blankB).reverse.dropWhile blankB).reverse
theorem set_blank : (fun c : UInt8 => ([32, 9] : List UInt8).contains c) = blankB := by
  funext c
  unfold blankB
  simp
  rfl
/-- What stands ahead of the blanks at the end. -/
theorem trim_split (a : List UInt8) : ∃ br : List UInt8, a = (a.reverse.dropWhile blankB).reverse ++ br ∧ br.all blankB = true := by
  refine ⟨(a.reverse.takeWhile blankB).reverse, ?_, ?_⟩
  · rw [← List.reverse_append, List.takeWhile_append_dropWhile, List.reverse_reverse]
  · rw [List.all_reverse]
    exact List.all_takeWhile
theorem last_not (a : List UInt8) (h : (a.reverse.dropWhile blankB).reverse ≠ []) : ∃ (i : List UInt8) (c : UInt8), (a.reverse.dropWhile blankB).reverse = i ++ [c] ∧ blankB c = false := by
  cases e : a.reverse.dropWhile blankB with
  | nil => rw [e] at h; exact absurd rfl h
  | cons c t =>
    refine ⟨t.reverse, c, by simp, ?_⟩
    have := List.head_dropWhile_not (p := blankB) (l := a.reverse) (by rw [e]; simp)
    simp only [e, List.head_cons] at this
    simpa using this
theorem first_not (p : List UInt8) (c : UInt8) (t : List UInt8) (h : p.dropWhile blankB = c :: t) : blankB c = false := by
  have := List.head_dropWhile_not (p := blankB) (l := p) (by rw [h]; simp)
  simp only [h, List.head_cons] at this
  simpa using this
theorem dw_all (f : UInt8 → Bool) (l r : List UInt8) (h : l.all f = true) : (l ++ r).dropWhile f = r.dropWhile f := by
  induction l with
  | nil => rfl
  | cons c t ih =>
    rw [List.all_cons, Bool.and_eq_true] at h
    rw [List.cons_append, List.dropWhile_cons, if_pos h.1, ih h.2]
theorem dw_part (f : UInt8 → Bool) (l r : List UInt8) (h : l.all f = false) : (l ++ r).dropWhile f = l.dropWhile f ++ r := by
  induction l with
  | nil => simp at h
  | cons c t ih =>
    by_cases hc : f c = true
    · rw [List.all_cons, hc, Bool.true_and] at h
      rw [List.cons_append, List.dropWhile_cons, if_pos hc, ih h, List.dropWhile_cons, if_pos hc]
    · rw [List.cons_append, List.dropWhile_cons, if_neg hc, List.dropWhile_cons, if_neg hc]
      rfl
theorem rdrop_part (l r : List UInt8) (h : r.all blankB = false) : ((l ++ r).reverse.dropWhile blankB).reverse = l ++ (r.reverse.dropWhile blankB).reverse := by
  rw [List.reverse_append, dw_part blankB _ _ (by rw [List.all_reverse]; exact h), List.reverse_append, List.reverse_reverse]
theorem trimS_is (p : List UInt8) : Lib.trimS p [32, 9] = trimW p := by
  unfold Lib.trimS Lib.trimRightS Lib.trimLeftS trimW
  rw [set_blank]
  have hp : p = p.takeWhile blankB ++ p.dropWhile blankB := List.takeWhile_append_dropWhile.symm
  cases hd : p.dropWhile blankB with
  | nil =>
    have ha : p.all blankB = true := (dw_nil _ _).1 hd
    have : p.reverse.dropWhile blankB = [] := (dw_nil _ _).2 (by rw [List.all_reverse]; exact ha)
    rw [this]
    rfl
  | cons c t =>
    have hc := first_not p c t hd
    have hna : (c :: t).all blankB = false := by rw [List.all_cons, hc]; rfl
    have e1 : (p.reverse.dropWhile blankB).reverse = p.takeWhile blankB ++ ((c :: t).reverse.dropWhile blankB).reverse := by
      conv => lhs; rw [hp, hd]
      exact rdrop_part _ _ hna
    obtain ⟨br, e, hb⟩ := trim_split (c :: t)
    rw [e1, dw_all blankB _ _ List.all_takeWhile]
    cases hr : ((c :: t).reverse.dropWhile blankB).reverse with
    | nil =>
      rw [hr, List.nil_append] at e
      rw [← e, hna] at hb
      cases hb
    | cons d u =>
      rw [hr, List.cons_append, List.cons.injEq] at e
      rw [List.dropWhile_cons, ← e.1, hc]
      rfl
theorem tw_all (f : UInt8 → Bool) (l r : List UInt8) (h : l.all f = true) (hr : r.takeWhile f = []) : (l ++ r).takeWhile f = l := by
  rw [List.takeWhile_append_of_pos (by simpa [List.all_eq_true] using h), hr, List.append_nil]
theorem blank_no_tok (c : UInt8) (h : blankB c = true) : tokB c = false := by
  unfold blankB at h
  rcases Bool.or_eq_true _ _ ▸ h with h | h
  · rw [eq_of_beq h]; decide
  · rw [eq_of_beq h]; decide
theorem tok_no_blank (c : UInt8) (h : tokB c = true) : blankB c = false := by
  cases e : blankB c
  · rfl
  · rw [blank_no_tok c e] at h; cases h
theorem tw_blank (br : List UInt8) (h : br.all blankB = true) : br.takeWhile tokB = [] := by
  cases br with
  | nil => rfl
  | cons c t =>
    rw [List.all_cons, Bool.and_eq_true] at h
    rw [List.takeWhile_cons, blank_no_tok c h.1]
    rfl
theorem dw_blank_tok (br : List UInt8) (h : br.all blankB = true) : br.dropWhile tokB = br := by
  cases br with
  | nil => rfl
  | cons c t =>
    rw [List.all_cons, Bool.and_eq_true] at h
    rw [List.dropWhile_cons, blank_no_tok c h.1]
    rfl
theorem part_none (p : List UInt8) (h : trimW p = []) : restP p = [] ∧ wordP p = [] := by
  obtain ⟨br, e, hb⟩ := trim_split (p.dropWhile blankB)
  have h1 : (p.dropWhile blankB).reverse.dropWhile blankB = [] := by
    have := congrArg List.reverse h
    unfold trimW at this
    simpa using this
  rw [h1] at e
  simp only [List.reverse_nil, List.nil_append] at e
  unfold restP wordP
  cases hc : p.dropWhile blankB with
  | nil => exact ⟨rfl, rfl⟩
  | cons c t =>
    have hn := first_not p c t hc
    rw [hc] at e
    rw [← e, List.all_cons, hn] at hb
    cases hb
theorem part_word (p : List UInt8) (h : isL (trimW p) = true) : restP p = [] ∧ wordP p = trimW p := by
  obtain ⟨br, e, hb⟩ := trim_split (p.dropWhile blankB)
  have e2 : p.dropWhile blankB = trimW p ++ br := e
  unfold isL at h
  rw [Bool.and_eq_true] at h
  unfold restP wordP
  rw [e2]
  refine ⟨?_, tw_all tokB _ _ h.2 (tw_blank br hb)⟩
  rw [dw_all tokB _ _ h.2, dw_blank_tok br hb]
  exact (dw_nil _ _).2 hb
/-- How many bytes of the trimmed part are a word and the blanks behind it. -/
def badN (w : List UInt8) : Nat := if runL tokB w = 0 then 0 else runL tokB w + runL blankB (w.drop (runL tokB w))
theorem trimIndex_at (bl w br : List UInt8) (hb : bl.all blankB = true) (c : UInt8) (t : List UInt8) (hw : w = c :: t) (hc : blankB c = false) : Lib.index (bl ++ w ++ br) w = bl.length := by
  induction bl with
  | nil =>
    subst hw
    show Lib.index (c :: (t ++ br)) (c :: t) = 0
    rw [Lib.index, if_pos]
    rw [List.isPrefixOf_iff_prefix]
    exact ⟨br, rfl⟩
  | cons d r ih =>
    rw [List.all_cons, Bool.and_eq_true] at hb
    have ih := ih hb.2
    show Lib.index (d :: (r ++ w ++ br)) w = _
    rw [Lib.index, if_neg, ih, if_neg]
    · simp
    · simp
    · intro hp
      rw [hw, List.isPrefixOf_iff_prefix] at hp
      obtain ⟨z, hz⟩ := hp
      have : c = d := by
        have := congrArg List.head? hz
        simpa using this
      rw [this, hb.1] at hc
      cases hc
theorem part_bad (p : List UInt8) (h0 : trimW p ≠ []) (h : isL (trimW p) = false) : restP p ≠ [] ∧ p.length - (restP p).length = runL blankB p + badN (trimW p) ∧ Lib.index p (trimW p) = runL blankB p := by
  obtain ⟨br, e, hb⟩ := trim_split (p.dropWhile blankB)
  have e2 : p.dropWhile blankB = trimW p ++ br := e
  obtain ⟨i, cl, el, hcl⟩ := last_not (p.dropWhile blankB) h0
  have el2 : trimW p = i ++ [cl] := el
  have hnt : (trimW p).all tokB = false := by
    unfold isL at h
    cases ht : (trimW p).all tokB
    · rfl
    · rw [ht, Bool.and_true] at h
      have : (trimW p).isEmpty = true := by simpa using h
      exact absurd (List.isEmpty_iff.1 this) h0
  obtain ⟨c, t, hct⟩ : ∃ c t, trimW p = c :: t := by
    cases hh : trimW p with
    | nil => exact absurd hh h0
    | cons c t => exact ⟨c, t, rfl⟩
  have hc : blankB c = false := first_not p c (t ++ br) (by rw [e2, hct]; rfl)
  have hpl : p.length = runL blankB p + ((trimW p).length + br.length) := by
    have h1 := drop_runL blankB p
    have h2 := congrArg List.length h1
    rw [List.length_drop, e2, List.length_append] at h2
    have := runL_le blankB p
    omega
  have hdr : (trimW p).dropWhile tokB = (trimW p).drop (runL tokB (trimW p)) := (drop_runL _ _).symm
  have hlt : runL tokB (trimW p) < (trimW p).length := by
    have h1 := runL_le tokB (trimW p)
    rcases Nat.lt_or_ge (runL tokB (trimW p)) (trimW p).length with h2 | h2
    · exact h2
    · have : runL tokB (trimW p) = (trimW p).length := by omega
      rw [(runL_all _ _).1 this] at hnt
      cases hnt
  have hnb : ((trimW p).drop (runL tokB (trimW p))).all blankB = false := by
    cases hx : ((trimW p).drop (runL tokB (trimW p))).all blankB
    · rfl
    · have hm : cl ∈ (trimW p).drop (runL tokB (trimW p)) := by
        rw [el2] at hlt ⊢
        rw [List.drop_append_of_le_length (by simp at hlt; omega)]
        simp
      have := List.all_eq_true.1 hx cl hm
      rw [hcl] at this
      cases this
  have hrest : restP p = (trimW p).drop (runL tokB (trimW p) + runL blankB ((trimW p).drop (runL tokB (trimW p)))) ++ br := by
    unfold restP
    rw [e2, dw_part tokB _ _ hnt, hdr, dw_part blankB _ _ hnb, ← drop_runL, List.drop_drop]
  have hn2 : runL blankB ((trimW p).drop (runL tokB (trimW p))) < ((trimW p).drop (runL tokB (trimW p))).length := by
    have h1 := runL_le blankB ((trimW p).drop (runL tokB (trimW p)))
    rcases Nat.lt_or_ge (runL blankB ((trimW p).drop (runL tokB (trimW p)))) ((trimW p).drop (runL tokB (trimW p))).length with h2 | h2
    · exact h2
    · rw [(runL_all _ _).1 (by omega)] at hnb
      cases hnb
  rw [List.length_drop] at hn2
  have hbad : badN (trimW p) = runL tokB (trimW p) + runL blankB ((trimW p).drop (runL tokB (trimW p))) := by
    unfold badN
    split
    · rename_i hz
      rw [hz, List.drop_zero, hct]
      have : runL blankB (c :: t) = 0 := by
        unfold runL
        rw [List.takeWhile_cons, hc]
        rfl
      rw [this]
    · rfl
  refine ⟨?_, ?_, ?_⟩
  · rw [hrest]
    intro hx
    have := congrArg List.length hx
    simp at this
    omega
  · rw [hrest, List.length_append, List.length_drop, hbad]
    omega
  · have hp : p = p.takeWhile blankB ++ trimW p ++ br := by
      rw [List.append_assoc, ← e2, List.takeWhile_append_dropWhile]
    have := trimIndex_at (p.takeWhile blankB) (trimW p) br List.all_takeWhile c t hct hc
    rw [← hp] at this
    rw [this]
    rfl
theorem part_size (d : UInt8) : ∀ (l : List UInt8) (p : List UInt8), p ∈ splitL d l → p.length ≤ l.length
  | [], p, h => by
    have : p = [] := by simpa [splitL] using h
    rw [this]
    exact Nat.le_refl _
  | c :: t, p, h => by
    rw [splitL] at h
    split at h
    · rcases List.mem_cons.1 h with rfl | h
      · simp
      · have := part_size d t p h
        simp
        omega
    · cases e : splitL d t with
      | nil =>
        rw [e] at h
        have : p = [c] := by simpa using h
        rw [this]
        simp
      | cons q r =>
        rw [e] at h
        rcases List.mem_cons.1 h with rfl | h
        · have := part_size d t q (by rw [e]; simp)
          simp
          omega
        · have := part_size d t p (by rw [e]; simp [h])
          simp
          omega
theorem trim_length (p : List UInt8) : (trimW p).length ≤ p.length := by
  unfold trimW
  rw [List.length_reverse]
  refine Nat.le_trans (List.dropWhile_sublist _).length_le ?_
  rw [List.length_reverse]
  exact (List.dropWhile_sublist _).length_le
end Go.Proofs.YtgajhmmildbkfaaGreatDoor

/- The qop that is answered, by the program. -/
namespace Go.Proofs.YtgajhmmildbkfaaGreatDoor
open Go.RowKit

theorem cell_lt {w : World} {c j : Nat} {v : Value} (h : w.cell? ⟨c, j, none⟩ = some v) : c < w.heap.size := by
  rcases Nat.lt_or_ge c w.heap.size with h1 | h1
  · exact h1
  · simp [World.cell?, Array.getElem?_eq_none h1] at h
set_option maxHeartbeats 1000000 in
theorem likeOne_any (x n : ByteArray) (hx : x.size ≤ 4000) (hn : n.size ≤ 4000) (c : Nat) (w : World) (hc : w.cell? ⟨c, 0, none⟩ = some (.string n)) :
    Calls Tryz.prog 97 #[.string x, .pointer (some ⟨c, 0, none⟩)] w fun e w' => e = .returned (.bool (sameL x.data.toList n.data.toList)) ∧ Below w.heap.size w w' := by
  go_enter Tryz.func97, Tryz.ntmps97
  go_wp2_with fail
  refine (same_any _ _ hx hn _).mono ?_
  rintro e w2 ⟨rfl, hb2⟩
  go_wp2
  go_ret
  exact ⟨rfl, hb2⟩
set_option maxHeartbeats 1000000 in
theorem hasWord_any (xs : List ByteArray) (hxs : ∀ x ∈ xs, x.size ≤ 4000) (n : ByteArray) (hn : n.size ≤ 4000) (a : Option Addr) (cap b off : Nat) (hl : xs.length ≤ 1000) (c : Nat) (w : World) (hc : w.cell? ⟨c, 0, none⟩ = some (.slice a xs.length cap)) (hx : Strs w a xs.length b off xs) :
    Calls Tryz.prog 95 #[.string n, .pointer (some ⟨c, 0, none⟩)] w fun e w' => e = .returned (.bool (xs.any fun x => sameL x.data.toList n.data.toList)) ∧ Below w.heap.size w w' := by
  have hcl := cell_lt hc
  have hb1 : Below w.heap.size w (w.alloc (.cells #[.string n] 9)) := (Below.refl _ _).alloc (Nat.le_refl _) _
  have HX : Hid (Strs (w.alloc (.cells #[.string n] 9)) a xs.length b off xs) := hx.below hb1
  have hn1 : (w.alloc (.cells #[.string n] 9)).cell? ⟨w.heap.size, 0, none⟩ = some (.string n) := World.cell?_alloc_mark _ _ _ _ _
  have HS : Hid (∀ w', Below (w.alloc (.cells #[.string n] 9)).heap.size (w.alloc (.cells #[.string n] 9)) w' → ∀ x ∈ xs, Calls Tryz.prog 97 #[.string x, .pointer (some ⟨w.heap.size, 0, none⟩)] w' fun e w'' => e = .returned (.bool (sameL x.data.toList n.data.toList)) ∧ Below w'.heap.size w' w'') := fun w' hb x hx => likeOne_any x n (hxs x hx) hn _ w' ((hb.cell (p := ⟨w.heap.size, 0, none⟩) (by simp)).trans hn1)
  clear hx hn1
  go_enter Tryz.func95, Tryz.ntmps95
  go_wp2_with fail
  refine (containsS_any _ _ _ xs a xs.length cap b off (by omega) _ HX.out HS.out (enters_at Tryz.func97 (by kernel_rfl) rfl)).mono ?_
  rintro e w2 ⟨rfl, hb2⟩
  go_wp2
  go_ret
  exact ⟨rfl, hb1.trans (hb2.mono (by simp))⟩
theorem any_texts (xs : List ByteArray) (n : List UInt8) : (texts xs).any (sameL · n) = xs.any fun x => sameL x.data.toList n := by unfold texts; rw [List.any_map]; rfl
theorem words_size (P : List (List UInt8)) : ∀ w ∈ wordsP P, ∃ p ∈ P, w.length ≤ p.length := by
  induction P with
  | nil => intro w hw; cases hw
  | cons p r ih =>
    intro w hw
    rw [wordsP, consW] at hw
    split at hw
    · obtain ⟨q, hq, h⟩ := ih w hw
      exact ⟨q, by simp [hq], h⟩
    · rcases List.mem_cons.1 hw with rfl | hw
      · refine ⟨p, by simp, ?_⟩
        unfold wordP
        exact Nat.le_trans (List.takeWhile_sublist _).length_le (List.dropWhile_sublist _).length_le
      · obtain ⟨q, hq, h⟩ := ih w hw
        exact ⟨q, by simp [hq], h⟩
theorem list_size {l : List UInt8} {xs : List ByteArray} (h : listP 0 (splitL 44 l) = .ok (texts xs)) : ∀ x ∈ xs, x.size ≤ l.length := by
  intro x hx
  have h1 := ((listP_ok _ _ _).1 h).2
  obtain ⟨p, hp, hl⟩ := words_size (splitL 44 l) x.data.toList (by rw [← h1]; exact List.mem_map.2 ⟨x, hx, rfl⟩)
  have := part_size 44 l p hp
  rw [len_data] at hl
  omega
theorem qop_err {v : ByteArray} {p : Nat} (h : listP 0 (splitL 44 v.data.toList) = .error p) : qopL (some v) = none := by simp only [qopL, h]
theorem qop_ok {v : ByteArray} {ws : List (List UInt8)} (h : listP 0 (splitL 44 v.data.toList) = .ok ws) : qopL (some v) = if 40 < ws.length then none else if ws.any (sameL · kAuth) then some (bs kAuth) else if ws.any (sameL · kAuthI) then some (bs kAuthI) else none := by simp only [qopL, h]
set_option maxRecDepth 100000 in
set_option maxHeartbeats 2000000 in
theorem protection_any (c : ChV) (hf : Few c.x.params) (w : World) (hx : ChOk w c) :
    Calls Tryz.prog 67 #[.agg #[.string c.x.scheme, .string c.x.token, .slice c.a c.len c.cap]] w fun e w' => e = .returned (optV (qopL (getL c.x.params kQop))) ∧ Below w.heap.size w w' := by
  have hb1 : Below w.heap.size w (w.alloc (.cells #[.string c.x.scheme, .string c.x.token, .slice c.a c.len c.cap] 38)) := (Below.refl _ _).alloc (Nat.le_refl _) _
  have HX : Hid (ChOk (w.alloc (.cells #[.string c.x.scheme, .string c.x.token, .slice c.a c.len c.cap] 38)) c) := hx.below hb1
  have HF : Hid (Few c.x.params) := hf
  have hget := get_any c ⟨#[113, 111, 112]⟩ hf (by decide) _ HX.out
  have hen := enters_at Tryz.func95 (by kernel_rfl) rfl
  clear hx hf
  rcases hg : getL c.x.params kQop with _ | v
  · have HG : Hid (getL c.x.params (⟨#[113, 111, 112]⟩ : ByteArray).data.toList = none) := hg
    rw [HG.out] at hget
    have hget' : Calls Tryz.prog 13 #[.agg #[.string c.x.scheme, .string c.x.token, .slice c.a c.len c.cap], .string ⟨#[113, 111, 112]⟩] (w.alloc (.cells #[.string c.x.scheme, .string c.x.token, .slice c.a c.len c.cap] 38)) fun e w' => e = .returned (.tuple #[.string ⟨#[]⟩, .bool false]) ∧ Below (w.alloc (.cells #[.string c.x.scheme, .string c.x.token, .slice c.a c.len c.cap] 38)).heap.size (w.alloc (.cells #[.string c.x.scheme, .string c.x.token, .slice c.a c.len c.cap] 38)) w' := hget
    clear hget hg
    go_enter Tryz.func67, Tryz.ntmps67
    go_wp2_with (go_at_call 13; refine hget'.mono ?_; rintro e w2 ⟨rfl, hb2⟩)
    go_ret2
    exact ⟨rfl, hb1.trans (hb2.mono (by simp))⟩
  · have hv3 : v.size ≤ 3000 := few_get HF.out hg
    have HG : Hid (getL c.x.params (⟨#[113, 111, 112]⟩ : ByteArray).data.toList = some v) := hg
    rw [HG.out] at hget
    have hget' : Calls Tryz.prog 13 #[.agg #[.string c.x.scheme, .string c.x.token, .slice c.a c.len c.cap], .string ⟨#[113, 111, 112]⟩] (w.alloc (.cells #[.string c.x.scheme, .string c.x.token, .slice c.a c.len c.cap] 38)) fun e w' => e = .returned (.tuple #[.string v, .bool true]) ∧ Below (w.alloc (.cells #[.string c.x.scheme, .string c.x.token, .slice c.a c.len c.cap] 38)).heap.size (w.alloc (.cells #[.string c.x.scheme, .string c.x.token, .slice c.a c.len c.cap] 38)) w' := hget
    clear hget hg
    go_enter Tryz.func67, Tryz.ntmps67
    go_wp2_with (go_at_call 13; refine hget'.mono ?_; rintro e w2 ⟨rfl, hb2⟩)
    have HB2 : Hid (Below w.heap.size w w2) := hb1.trans (hb2.mono (by simp))
    clear hget' hb1 hb2
    refine (list_any v (by omega) _).mono ?_
    rintro e w3 ⟨hl, hb3⟩
    have HB3 : Hid (Below w.heap.size w w3) := HB2.out.trans (hb3.mono HB2.out.size)
    clear hb3
    rcases hl with ⟨xs, lv, h1, h2, rfl, h3⟩ | ⟨xs, h1, h2, rfl⟩ | ⟨p, g, h1, rfl, _⟩
    · obtain ⟨a, cap, g, rfl, hS⟩ := h3.strs
      have hx4 : ∀ x ∈ xs, x.size ≤ 4000 := fun x hx => by have := list_size h1 x hx; rw [len_data] at this; omega
      have HQ : Hid (qopL (some v) = if xs.any (fun x => sameL x.data.toList kAuth) then some (bs kAuth) else if xs.any (fun x => sameL x.data.toList kAuthI) then some (bs kAuthI) else none) := by
        show _ = _
        rw [qop_ok h1, if_neg (by unfold texts; rw [List.length_map]; omega), any_texts, any_texts]
      have hb4 : Below w3.heap.size w3 (w3.alloc (.cells #[.slice a xs.length cap] 22)) := (Below.refl _ _).alloc (Nat.le_refl _) _
      have hc4 : (w3.alloc (.cells #[.slice a xs.length cap] 22)).cell? ⟨w3.heap.size, 0, none⟩ = some (.slice a xs.length cap) := World.cell?_alloc_mark _ _ _ _ _
      have hl4 : w3.heap.size < (w3.alloc (.cells #[.slice a xs.length cap] 22)).heap.size := by simp
      have HS4 : Hid (Strs (w3.alloc (.cells #[.slice a xs.length cap] 22)) a xs.length g 0 xs) := hS.below hb4
      have HB4 : Hid (Below w.heap.size w (w3.alloc (.cells #[.slice a xs.length cap] 22))) := HB3.out.trans (hb4.mono HB3.out.size)
      clear h1 h3 hS hb4
      generalize hW4 : w3.alloc (.cells #[.slice a xs.length cap] 22) = W4 at hc4 hl4 HS4 HB4
      go_wp2_with fail
      clear hW4
      refine (hasWord_any xs hx4 ⟨#[97, 117, 116, 104]⟩ (by decide) a cap g 0 (by omega) _ _ hc4 HS4.out).mono ?_
      rintro e w5 ⟨rfl, hb5⟩
      have HB5 : Hid (Below w.heap.size w w5) := HB4.out.trans (hb5.mono HB4.out.size)
      have hc5 := (hb5.cell (p := ⟨w3.heap.size, 0, none⟩) hl4).trans hc4
      have HS5 : Hid (Strs w5 a xs.length g 0 xs) := HS4.out.below hb5
      clear hb5 hc4 hl4
      cases h5 : xs.any fun x => sameL x.data.toList (⟨#[97, 117, 116, 104]⟩ : ByteArray).data.toList
      · go_wp2_with fail
        refine (hasWord_any xs hx4 ⟨#[97, 117, 116, 104, 45, 105, 110, 116]⟩ (by decide) a cap g 0 (by omega) _ _ hc5 HS5.out).mono ?_
        rintro e w6 ⟨rfl, hb6⟩
        have HB6 : Hid (Below w.heap.size w w6) := HB5.out.trans (hb6.mono HB5.out.size)
        clear hb6
        cases h6 : xs.any fun x => sameL x.data.toList (⟨#[97, 117, 116, 104, 45, 105, 110, 116]⟩ : ByteArray).data.toList
        · have HA : Hid (qopL (some v) = none) := by
            show _ = _
            rw [HQ.out, if_neg (by rw [show (xs.any fun x => sameL x.data.toList kAuth) = false from h5]; simp), if_neg (by rw [show (xs.any fun x => sameL x.data.toList kAuthI) = false from h6]; simp)]
          go_wp2
          go_ret2
          exact ⟨by rw [HA.out]; rfl, HB6.out⟩
        · have HA : Hid (qopL (some v) = some (bs kAuthI)) := by
            show _ = _
            rw [HQ.out, if_neg (by rw [show (xs.any fun x => sameL x.data.toList kAuth) = false from h5]; simp), if_pos (show (xs.any fun x => sameL x.data.toList kAuthI) = true from h6)]
          go_wp2
          go_ret2
          exact ⟨by rw [HA.out]; rfl, HB6.out⟩
      · have HA : Hid (qopL (some v) = some (bs kAuth)) := by
          show _ = _
          rw [HQ.out, if_pos (show (xs.any fun x => sameL x.data.toList kAuth) = true from h5)]
        go_wp2
        go_ret2
        exact ⟨by rw [HA.out]; rfl, HB5.out⟩
    · have HA : Hid (qopL (some v) = none) := by
        show _ = _
        rw [qop_ok h1, if_pos (by unfold texts; rw [List.length_map]; exact h2)]
      go_wp2
      go_ret2
      exact ⟨by rw [HA.out]; rfl, HB3.out.alloc HB3.out.size _⟩
    · have HA : Hid (qopL (some v) = none) := qop_err h1
      go_wp2
      go_ret2
      exact ⟨by rw [HA.out]; rfl, HB3.out.alloc HB3.out.size _⟩
end Go.Proofs.YtgajhmmildbkfaaGreatDoor

/- The library's contracts that are leant on, laid at this program's numbers. -/
namespace Go.Proofs.YtgajhmmildbkfaaGreatDoor
open Go.Shelf Go.RowKit
def lays146_ren : Go.Shelf.Ren := ⟨fun | 146 => 98 | 221 => 121 | 268 => 134 | 138 => 135 | 143 => 69 | 195 => 142 | 197 => 130 | 218 => 143 | 219 => 100 | 260 => 140 | 217 => 101 | 225 => 125 | 224 => 126 | 267 => 127 | 266 => 128 | 314 => 139 | n => n, fun | 9 => 9 | 31 => 22 | 3 => 3 | 4 => 4 | 0 => 0 | 105 => 167 | 21 => 21 | 5 => 5 | 46 => 97 | 119 => 177 | 139 => 180 | 138 => 179 | 146 => 133 | 51 => 114 | n => n, fun | 1 => 5 | 3 => 8 | 4 => 9 | n => n⟩
theorem lays146 : Go.Proofs.Lays.n146 Tryz.prog lays146_ren := {
  mixed := by kernel_rfl
  f138 := Tryz.func135.trans (congrArg some (by kernel_rfl))
  f143 := Tryz.func69.trans (congrArg some (by kernel_rfl))
  f146 := Tryz.func98.trans (congrArg some (by kernel_rfl))
  f195 := Tryz.func142.trans (congrArg some (by kernel_rfl))
  f197 := Tryz.func130.trans (congrArg some (by kernel_rfl))
  f217 := Tryz.func101.trans (congrArg some (by kernel_rfl))
  f218 := Tryz.func143.trans (congrArg some (by kernel_rfl))
  f219 := Tryz.func100.trans (congrArg some (by kernel_rfl))
  f221 := Tryz.func121.trans (congrArg some (by kernel_rfl))
  f224 := Tryz.func126.trans (congrArg some (by kernel_rfl))
  f225 := Tryz.func125.trans (congrArg some (by kernel_rfl))
  f260 := Tryz.func140.trans (congrArg some (by kernel_rfl))
  f266 := Tryz.func128.trans (congrArg some (by kernel_rfl))
  f267 := Tryz.func127.trans (congrArg some (by kernel_rfl))
  f268 := Tryz.func134.trans (congrArg some (by kernel_rfl))
  f314 := Tryz.func139.trans (congrArg some (by kernel_rfl))
  t0 := Tryz.underlying0
  a0 := Tryz.isAgg0
  z0 := Tryz.sizeOf0
  v0 := Tryz.zeroValue0
  t3 := Tryz.underlying3
  a3 := Tryz.isAgg3
  z3 := Tryz.sizeOf3
  v3 := Tryz.zeroValue3
  t4 := Tryz.underlying4
  a4 := Tryz.isAgg4
  z4 := Tryz.sizeOf4
  v4 := Tryz.zeroValue4
  t5 := Tryz.underlying5
  a5 := Tryz.isAgg5
  z5 := Tryz.sizeOf5
  v5 := Tryz.zeroValue5
  t9 := Tryz.underlying9
  a9 := Tryz.isAgg9
  z9 := Tryz.sizeOf9
  v9 := Tryz.zeroValue9
  t21 := Tryz.underlying21
  a21 := Tryz.isAgg21
  z21 := Tryz.sizeOf21
  v21 := Tryz.zeroValue21
  t31 := Tryz.underlying22
  a31 := Tryz.isAgg22
  z31 := Tryz.sizeOf22
  v31 := Tryz.zeroValue22
  t46 := Tryz.underlying97
  a46 := Tryz.isAgg97
  z46 := Tryz.sizeOf97
  v46 := Tryz.zeroValue97
  t51 := Tryz.underlying114
  a51 := Tryz.isAgg114
  z51 := Tryz.sizeOf114
  v51 := Tryz.zeroValue114
  t105 := Tryz.underlying167
  a105 := Tryz.isAgg167
  z105 := Tryz.sizeOf167
  v105 := Tryz.zeroValue167
  t119 := Tryz.underlying177
  a119 := Tryz.isAgg177
  z119 := Tryz.sizeOf177
  t138 := Tryz.underlying179
  a138 := Tryz.isAgg179
  z138 := Tryz.sizeOf179
  v138 := Tryz.zeroValue179
  t139 := Tryz.underlying180
  a139 := Tryz.isAgg180
  z139 := Tryz.sizeOf180
  v139 := Tryz.zeroValue180
  t146 := Tryz.underlying133
  a146 := Tryz.isAgg133
  z146 := Tryz.sizeOf133
  v146 := Tryz.zeroValue133
  g1 := by kernel_rfl
  g3 := by kernel_rfl
  g4 := by kernel_rfl }
end Go.Proofs.YtgajhmmildbkfaaGreatDoor

/- strings.Split at one byte, without a word on internal/bytealg.MaxLen. -/
namespace Go.Proofs.YtgajhmmildbkfaaGreatDoor
open Go.RowKit Go.Shelf

theorem indexB_ix (s : ByteArray) (c : UInt8) : Lib.indexB s ⟨#[c]⟩ = ixOf s.data.toList c := Lib.index_one s.data.toList c
theorem countB_ct (s : ByteArray) (c : UInt8) : Lib.countB s ⟨#[c]⟩ = s.data.toList.count c := Lib.count_one c s.data.toList
theorem splitB_list (c : UInt8) : ∀ (k : Nat) (s : ByteArray), s.data.toList.count c ≤ k → (Lib.splitB ⟨#[c]⟩ 0 k s).map (·.data.toList) = splitL c s.data.toList
  | k, s, hk => by
    rcases ixOf_first s.data.toList c with ⟨hi, hno⟩ | ⟨n, hn, hi, hno, hsp⟩
    · rw [Lib.splitB_miss _ _ _ _ ((indexB_ix s c).trans hi), splitL_part c _ hno]
      rfl
    · have hc : s.data.toList.count c = (s.data.toList.drop (n + 1)).count c + 1 := by
        conv => lhs; rw [hsp]
        rw [List.count_append, List.count_eq_zero.2 hno, List.count_cons_self]
        omega
      cases k with
      | zero => omega
      | succ k =>
        have hl : s.data.toList.length = s.size := Array.length_toList
        have e1 : (s.extract (n + (⟨#[c]⟩ : ByteArray).size) s.size).data.toList = s.data.toList.drop (n + 1) := by
          rw [ByteArray.data_extract, Array.toList_extract, List.extract_eq_take_drop]
          show List.take (s.size - (n + 1)) (List.drop (n + 1) s.data.toList) = _
          rw [List.take_of_length_le (by rw [List.length_drop]; omega)]
        have e0 : (s.extract 0 (n + 0)).data.toList = s.data.toList.take n := by
          rw [ByteArray.data_extract, Array.toList_extract, List.extract_eq_take_drop]
          simp
        rw [Lib.splitB_hit _ _ _ _ n ((indexB_ix s c).trans hi), List.map_cons, splitB_list c k _ (by rw [e1]; omega), e1, e0]
        conv => rhs; rw [hsp]
        rw [splitL_more c _ _ hno]

set_option maxHeartbeats 1000000 in
theorem split_one (s : ByteArray) (c : UInt8) (hs : s.size ≤ 20000) (w : World) :
    Calls Tryz.prog 98 #[.string s, .string ⟨#[c]⟩] w fun e w' => ∃ ps : List ByteArray, e = .returned (.slice (some ⟨w.heap.size, 0, none⟩) ps.length ps.length) ∧ ps.length ≤ s.size + 1 ∧ w' = w.alloc (.cells (ps.map Value.string).toArray 9) ∧ Hid (ps.map (·.data.toList) = splitL c s.data.toList) := by
  have h1 : 1 ≤ (⟨#[c]⟩ : ByteArray).size := Nat.le_refl _
  have hle := Lib.countB_le ⟨#[c]⟩ h1 s.size s (Nat.le_refl _)
  have hlen := Lib.splitB_all ⟨#[c]⟩ h1 0 _ s rfl
  have HL : Hid ((Lib.splitB ⟨#[c]⟩ 0 (Lib.countB s ⟨#[c]⟩) s).map (·.data.toList) = splitL c s.data.toList) := splitB_list c _ s (Nat.le_of_eq (countB_ct s c).symm)
  have hI : ∀ (x : ByteArray) (a : Array Value), x.size ≤ s.size → Calls Tryz.prog (lays146_ren.f 143) #[.string x, .string ⟨#[c]⟩] (w.alloc (.cells a (lays146_ren.t 9))) fun e w' => e = .returned (.int .i64 (Lib.indexB x ⟨#[c]⟩)) ∧ w' = w.alloc (.cells a (lays146_ren.t 9)) := fun x a _ => by
    rw [indexB_ix]
    exact Any.strings_Index_one { lays146 with } x c _
  have hC : Calls Tryz.prog (lays146_ren.f 138) #[.string s, .string ⟨#[c]⟩] w fun e w' => e = .returned (.int .i64 (Lib.countB s ⟨#[c]⟩)) ∧ w' = w := by
    rw [countB_ct]
    exact Any.strings_Count_one { lays146 with } s c w
  have g := Any.strings_genSplit_core { lays146 with } (by kernel_rfl) s ⟨#[c]⟩ 0 (-1) (Lib.countB s ⟨#[c]⟩ + 1) w (by omega) h1 (Nat.zero_le _) hI hC (by decide) (by decide) (by rw [if_pos (by decide)]; omega)
  rw [Nat.add_sub_cancel] at g
  have e2 : Lib.cellsOf (Lib.splitB ⟨#[c]⟩ 0 (Lib.countB s ⟨#[c]⟩) s) (Lib.countB s ⟨#[c]⟩ + 1) = ((Lib.splitB ⟨#[c]⟩ 0 (Lib.countB s ⟨#[c]⟩) s).map Value.string).toArray := by rw [← hlen]; exact Lib.cellsOf_full _
  rw [e2, ← hlen] at g
  have hl2 : (Lib.splitB ⟨#[c]⟩ 0 (Lib.countB s ⟨#[c]⟩) s).length ≤ s.size + 1 := by omega
  clear e2 hI hC hle hlen
  generalize Lib.splitB ⟨#[c]⟩ 0 (Lib.countB s ⟨#[c]⟩) s = ps at g HL hl2
  have g2 : Calls Tryz.prog 121 #[.string s, .string ⟨#[c]⟩, .int .i64 0, .int .i64 (-1)] w fun e w' => e = .returned (.slice (some ⟨w.heap.size, 0, none⟩) ps.length ps.length) ∧ w' = w.alloc (.cells (ps.map Value.string).toArray 9) := g
  clear g
  go_enter Tryz.func98, Tryz.ntmps98
  go_wp2_with (go_at_call 121; refine g2.mono ?_; rintro e w' ⟨rfl, hw⟩; rw [hw])
  go_ret
  exact ⟨ps, rfl, hl2, rfl, HL⟩

end Go.Proofs.YtgajhmmildbkfaaGreatDoor

/- What Clean gathers, part by part: over lists of bytes. -/
namespace Go.Proofs.YtgajhmmildbkfaaGreatDoor
open Go.RowKit

/-- The parts that stand so far. -/
def stk (acc : List (List UInt8)) : List (List UInt8) → List (List UInt8)
  | [] => acc
  | p :: r => stk (cleanStep false acc p) r
theorem stk_snoc (ps : List (List UInt8)) (p : List UInt8) : ∀ acc, stk acc (ps ++ [p]) = cleanStep false (stk acc ps) p := by
  induction ps with
  | nil => intro acc; rfl
  | cons q r ih => intro acc; exact ih _
/-- They, each behind its slash. -/
def flat (ps : List (List UInt8)) : List UInt8 := ps.flatMap (fun p => 47 :: p)
theorem flat_snoc (ps : List (List UInt8)) (p : List UInt8) : flat (ps ++ [p]) = flat ps ++ 47 :: p := by simp [flat]
theorem flat_join : ∀ ps : List (List UInt8), ps ≠ [] → flat ps = 47 :: joinL 47 ps
  | [], h => absurd rfl h
  | [p], _ => by simp [flat, joinL]
  | p :: q :: r, _ => by
    have ih := flat_join (q :: r) (by simp)
    have e : joinL 47 (p :: q :: r) = p ++ 47 :: joinL 47 (q :: r) := by rw [joinL]; simp
    show 47 :: p ++ flat (q :: r) = _
    rw [ih, e]
    rfl
def dots (p : List UInt8) : Bool := decide (p = [46] ∨ p = [46, 46])
theorem step_true (acc : List (List UInt8)) (p : List UInt8) : cleanStep true acc p = cleanStep false acc p ++ (if dots p then [[]] else []) := by
  unfold cleanStep dots
  by_cases h1 : p = [46]
  · simp [h1]
  · by_cases h2 : p = [46, 46]
    · simp [h2]
    · simp [h1, h2]
theorem parts_stk (ps : List (List UInt8)) (p : List UInt8) : ∀ acc, cleanParts acc (ps ++ [p]) = stk acc (ps ++ [p]) ++ (if dots p then [[]] else []) := by
  induction ps with
  | nil =>
    intro acc
    show cleanParts (cleanStep true acc p) [] = _
    rw [cleanParts, step_true]
    rfl
  | cons q r ih =>
    intro acc
    have hne : (r ++ [p]).isEmpty = false := by cases r <;> rfl
    show cleanParts (cleanStep (r ++ [p]).isEmpty acc q) (r ++ [p]) = _
    rw [hne, ih]
    rfl
theorem step_plain (acc : List (List UInt8)) (p : List UInt8) (ha : ∀ q ∈ acc, (47 : UInt8) ∉ q) (hp : (47 : UInt8) ∉ p) : ∀ q ∈ cleanStep false acc p, (47 : UInt8) ∉ q := by
  intro q hq
  unfold cleanStep at hq
  split at hq
  · exact ha q hq
  split at hq
  · exact ha q ((List.dropLast_sublist acc).subset hq)
  · rcases List.mem_append.1 hq with h | h
    · exact ha q h
    · simp at h
      rw [h]
      exact hp
theorem stk_plain (ps : List (List UInt8)) (hp : ∀ p ∈ ps, (47 : UInt8) ∉ p) : ∀ acc, (∀ q ∈ acc, (47 : UInt8) ∉ q) → ∀ q ∈ stk acc ps, (47 : UInt8) ∉ q := by
  induction ps with
  | nil => intro acc ha; exact ha
  | cons p r ih => intro acc ha; exact ih (fun x hx => hp x (by simp [hx])) _ (step_plain acc p ha (hp p (by simp)))
theorem flat_step_len (acc : List (List UInt8)) (p : List UInt8) : (flat (cleanStep false acc p)).length ≤ (flat acc).length + p.length + 1 := by
  unfold cleanStep
  simp only [Bool.false_eq_true, if_false]
  split
  · omega
  split
  · rcases List.eq_nil_or_concat acc with rfl | ⟨a, x, rfl⟩
    · simp [flat]
    · rw [List.concat_eq_append, List.dropLast_concat, flat_snoc]
      simp
      omega
  · rw [flat_snoc]
    simp
    omega
/-- The last part (none: nothing). -/
def lastP : List ByteArray → ByteArray
  | [] => ⟨#[]⟩
  | [p] => p
  | _ :: q :: r => lastP (q :: r)
theorem lastP_snoc (ps : List ByteArray) (p : ByteArray) : lastP (ps ++ [p]) = p := by
  induction ps with
  | nil => rfl
  | cons q r ih =>
    cases r with
    | nil => rfl
    | cons a b => exact ih
def lists (ps : List ByteArray) : List (List UInt8) := ps.map (fun p => p.data.toList)
def outL (ps : List ByteArray) : List UInt8 := flat (stk [] (lists ps))
theorem outL_snoc (ps : List ByteArray) (p : ByteArray) : outL (ps ++ [p]) = flat (cleanStep false (stk [] (lists ps)) p.data.toList) := by
  unfold outL lists
  rw [List.map_append, List.map_singleton, stk_snoc]
theorem lists_parts (c : UInt8) (s : ByteArray) : lists (partsOf c s) = splitL c s.data.toList := by
  unfold lists partsOf
  rw [List.map_map]
  have : ((fun p : ByteArray => p.data.toList) ∘ bs) = id := by
    funext l
    exact bs_data l
  rw [this, List.map_id]
/-- All parts gathered: the clean path. -/
theorem outL_done (b : ByteArray) : 47 :: joinL 47 (cleanParts [] (splitL 47 b.data.toList)) = outL (partsOf 47 b) ++ (if dots (lastP (partsOf 47 b)).data.toList then [47] else []) := by
  obtain ⟨ps, p, hps⟩ : ∃ (ps : List ByteArray) (p : ByteArray), partsOf 47 b = ps ++ [p] := by
    rcases List.eq_nil_or_concat (partsOf 47 b) with h | ⟨a, x, h⟩
    · exfalso
      have := splitL_ne 47 b.data.toList
      rw [← lists_parts, h] at this
      exact this rfl
    · exact ⟨a, x, by rw [h, List.concat_eq_append]⟩
  have hl : splitL 47 b.data.toList = lists ps ++ [p.data.toList] := by rw [← lists_parts, hps]; simp [lists]
  rw [hps, lastP_snoc, ← flat_join _ (cleanParts_ne _ _ (splitL_ne _ _)), hl, parts_stk]
  have ho : outL (ps ++ [p]) = flat (stk [] (lists ps ++ [p.data.toList])) := by
    unfold outL lists
    rw [List.map_append, List.map_singleton]
  rw [ho]
  by_cases hd : dots p.data.toList = true
  · rw [hd, if_pos rfl, if_pos rfl, flat_snoc]
  · rw [if_neg hd, if_neg hd, List.append_nil, List.append_nil]
theorem outL_len (ps : List ByteArray) (h : ∀ p ∈ ps, p.size ≤ 4000) : (outL ps).length ≤ ps.length * 4001 := by
  have key : ∀ (n : Nat) (qs : List ByteArray), qs.length = n → (∀ p ∈ qs, p.size ≤ 4000) → (outL qs).length ≤ n * 4001 := by
    intro n
    induction n with
    | zero =>
      intro qs hq _
      rw [List.eq_nil_of_length_eq_zero hq]
      simp [outL, lists, stk, flat]
    | succ n ih =>
      intro qs hq hs
      rcases List.eq_nil_or_concat qs with rfl | ⟨a, x, rfl⟩
      · simp at hq
      · rw [List.concat_eq_append] at hq hs ⊢
        have h1 := ih a (by simpa using hq) (fun p hp => hs p (by simp [hp]))
        have h2 := flat_step_len (stk [] (lists a)) x.data.toList
        have h3 := hs x (by simp)
        have h4 : x.data.toList.length = x.size := Array.length_toList
        rw [outL_snoc]
        have h5 : (outL a).length = (flat (stk [] (lists a))).length := rfl
        omega
  exact key _ ps rfl h
theorem splitL_length (c : UInt8) : ∀ l, (splitL c l).length ≤ l.length + 1
  | [] => by simp [splitL]
  | b :: t => by
    have ih := splitL_length c t
    unfold splitL
    split
    · simp
      omega
    · split
      · simp
      · rename_i h
        rw [h] at ih
        simp at ih ⊢
        omega
theorem parts_length (c : UInt8) (s : ByteArray) : (partsOf c s).length ≤ s.size + 1 := by
  unfold partsOf
  rw [List.length_map]
  have := splitL_length c s.data.toList
  have e : s.data.toList.length = s.size := Array.length_toList
  omega
end Go.Proofs.YtgajhmmildbkfaaGreatDoor

/- Where a slash stands last in a row of bytes; what is cut off ahead of a text: by the library's own functions. -/
namespace Go.Proofs.YtgajhmmildbkfaaGreatDoor
open Go.RowKit

/-- Where a byte stands last; below 0: nowhere. -/
def lastL (c : UInt8) (l : List UInt8) : Int := match l with
  | [] => -1
  | b :: t => if lastL c t = -1 then (if b = c then 0 else -1) else lastL c t + 1
theorem lastL_none (c : UInt8) : ∀ l, c ∉ l → lastL c l = -1
  | [], _ => rfl
  | b :: t, h => by
    have h1 : b ≠ c := fun e => h (by simp [e])
    have h2 := lastL_none c t (fun e => h (by simp [e]))
    simp [lastL, h2, h1]
theorem lastL_some (c : UInt8) (b : List UInt8) (h : c ∉ b) : ∀ a, lastL c (a ++ c :: b) = (a.length : Int)
  | [] => by
    have := lastL_none c b h
    simp [lastL, this]
  | x :: a => by
    have ih := lastL_some c b h a
    show (if lastL c (a ++ c :: b) = -1 then _ else lastL c (a ++ c :: b) + 1) = _
    rw [ih, if_neg (by omega)]
    simp
set_option maxHeartbeats 1000000 in
set_option maxRecDepth 100000 in
theorem blast_in (l : List UInt8) (g n cap : Nat) (w : World) (hn : l.length = n) (hn2 : n ≤ 100000000) (hcells : ∀ j (h : j < l.length), w.cell? ⟨g, j, none⟩ = some (.int .u8 (l[j].toNat : Int))) :
    Calls Tryz.prog 138 #[.slice (some ⟨g, 0, none⟩) n cap, .int .u8 47] w fun e w' => e = .returned (.int .i64 (lastL 47 l)) ∧ w' = w := by
  have HC : Hid (∀ j (h : j < l.length), w.cell? ⟨g, j, none⟩ = some (.int .u8 (l[j].toNat : Int))) := hcells
  clear hcells
  have hw0 : IntKind.i64.wrap ((n : Int) - 1) = (n : Int) - 1 := IntWalk.i64_in _ ⟨by omega, by omega⟩
  go_enter Tryz.func138, Tryz.ntmps138
  go_wp2
  go_loop [5] (fun i => ∃ k : Nat, k ≤ n ∧ i = .int .i64 ((k : Int) - 1) ∧ Hid ((47 : UInt8) ∉ l.drop k)) (fun i => (intOf i + 1).toNat)
  case atStart => exact ⟨n, Nat.le_refl _, rfl, by show ¬ _; rw [List.drop_of_length_le (by omega)]; simp⟩
  case round =>
    obtain ⟨k, hk, rfl, HK⟩ := hrel
    cases k with
    | zero =>
      go_wp2
      go_ret
      exact ⟨by rw [lastL_none 47 l (by simpa using HK.out)]; rfl, rfl⟩
    | succ m =>
      have hm : m < l.length := by omega
      obtain ⟨c, hc⟩ : ∃ c : UInt8, l[m] = c := ⟨_, rfl⟩
      have hcell : w.cell? ⟨g, m, none⟩ = some (.int .u8 (c.toNat : Int)) := by rw [← hc]; exact HC.out m hm
      have HS : Hid (l = l.take m ++ c :: l.drop (m + 1)) := by show _ = _; rw [← hc, ← List.drop_eq_getElem_cons, List.take_append_drop]
      have hix : ((m + 1 : Nat) : Int) - 1 = (m : Int) := by omega
      rw [hix]
      by_cases h47 : c = 47
      · subst h47
        have HL : Hid (lastL 47 l = (m : Int)) := by
          show _ = _
          rw [HS.out, lastL_some 47 _ HK.out]
          simp
          omega
        go_wp2
        go_ret
        exact ⟨by rw [HL.out]; rfl, rfl⟩
      · have q : ((c.toNat : Int) == 47) = false := beq_eq_false_iff_ne.2 (fun e => h47 (UInt8.toNat_inj.1 (by have : (47 : UInt8).toNat = 47 := rfl; omega)))
        have HN : Hid ((47 : UInt8) ∉ l.drop m) := by
          show ¬ _
          rw [List.drop_eq_getElem_cons hm, hc]
          simp
          exact ⟨fun e => h47 e.symm, by simpa using HK.out⟩
        have hw1 : IntKind.i64.wrap ((m : Int) - 1) = (m : Int) - 1 := IntWalk.i64_in _ ⟨by omega, by omega⟩
        clear h47
        go_wp2
        go_round
        case rel => exact ⟨m, by omega, by go_num, HN⟩
        case measure => simp [intOf]
theorem blast_any (l : List UInt8) (g n cap : Nat) (w : World) (hn : l.length = n) (hn2 : n ≤ 100000000) (hcells : ∀ j (h : j < l.length), w.cell? ⟨g, j, none⟩ = some (.int .u8 (l[j].toNat : Int))) :
    Calls Tryz.prog 124 #[.slice (some ⟨g, 0, none⟩) n cap, .int .u8 47] w fun e w' => e = .returned (.int .i64 (lastL 47 l)) ∧ w' = w := by
  go_enter Tryz.func124, Tryz.ntmps124
  go_wp2_with (go_at_call 138; refine (blast_in l g n cap _ hn hn2 hcells).mono ?_; rintro e w' ⟨rfl, rfl⟩)
  go_ret
  exact ⟨rfl, rfl⟩
end Go.Proofs.YtgajhmmildbkfaaGreatDoor

/- A path without its first slash, by the library's own function. -/
namespace Go.Proofs.YtgajhmmildbkfaaGreatDoor
open Go.RowKit

theorem one_list (s : ByteArray) (h : 0 < s.size) : (s.extract 0 1).toList = [s[0]] := by
  rw [ByteArray.toList_eq, upto_data]
  have := take_snoc s 0 h
  simpa using this
theorem body_yes (s : ByteArray) (h : 0 < s.size) (e : s[0] = 47) : bs (bodyL s.data.toList) = s.extract 1 s.size := by
  have hl : s.data.toList = 47 :: s.data.toList.drop 1 := by
    have h1 := List.drop_eq_getElem_cons (l := s.data.toList) (i := 0) (by simpa using h)
    simp only [List.drop_zero] at h1
    rw [h1]
    have : s.data.toList[0]'(by simpa using h) = 47 := e
    simp [this]
  rw [← bs_self (s.extract 1 s.size), from_data]
  congr 1
  generalize s.data.toList.drop 1 = t at hl
  rw [hl]
  rfl
theorem body_no (s : ByteArray) (h : 0 < s.size) (e : s[0] ≠ 47) : bs (bodyL s.data.toList) = s := by
  have hl : s.data.toList = s[0] :: s.data.toList.drop 1 := by
    have h1 := List.drop_eq_getElem_cons (l := s.data.toList) (i := 0) (by simpa using h)
    simp only [List.drop_zero] at h1
    rw [h1]
    rfl
  have hb : bodyL s.data.toList = s.data.toList := by
    generalize s.data.toList.drop 1 = t at hl
    rw [hl]
    unfold bodyL
    split
    · rename_i h2
      simp at h2
      exact absurd h2.1 e
    · rfl
  rw [hb, bs_self]
set_option maxHeartbeats 1000000 in
theorem trimP (s : ByteArray) (hs : s.size ≤ 5000) (w : World) :
    Calls Tryz.prog 123 #[.string s, .string ⟨#[47]⟩] w fun e w' => e = .returned (.string (bs (bodyL s.data.toList))) ∧ w' = w := by
  by_cases h0 : s.size = 0
  · obtain rfl : s = ⟨#[]⟩ := by
      apply ByteArray.ext
      exact Array.eq_empty_of_size_eq_zero h0
    go_enter Tryz.func123, Tryz.ntmps123
    go_wp2
    go_ret
    exact ⟨rfl, rfl⟩
  · have hp : 0 < s.size := by omega
    obtain ⟨c, hc⟩ : ∃ c, s[0] = c := ⟨_, rfl⟩
    have h1 := one_list s hp
    rw [hc] at h1
    by_cases h47 : c = 47
    · subst h47
      rw [body_yes s hp hc]
      have q : ((s.extract 0 1).toList == [47]) = true := by rw [h1]; rfl
      go_enter Tryz.func123, Tryz.ntmps123
      go_wp2
      go_ret
      exact ⟨rfl, rfl⟩
    · rw [body_no s hp (by rw [hc]; exact h47)]
      have q : (c == 47) = false := beq_eq_false_iff_ne.2 h47
      go_enter Tryz.func123, Tryz.ntmps123
      go_wp2
      go_ret
      exact ⟨rfl, rfl⟩
end Go.Proofs.YtgajhmmildbkfaaGreatDoor

/- What stands between a text's marks, one piece behind the other: the program's own iterator. -/
namespace Go.Proofs.YtgajhmmildbkfaaGreatDoor
open Go.RowKit Go.Shelf
attribute [local go_sem] Oper.semAt_some

/-- What a round keeps: the cell in which the mark lies. -/
def KeepsCell (p : Addr) (W W' : World) : Prop := ∀ v, W.cell? p = some v → W'.cell? p = some v
theorem keepsCell_t {p : Addr} {A B C : World} (h : KeepsCell p A B) (k : KeepsCell p B C) : KeepsCell p A C := fun v hv => k v (h v hv)
theorem keepsCell_b {p : Addr} (w W : World) (l : Nat) (o o' : Obj) (_ : w.heap.size ≤ l) (h : W.heap[l]? = some o) (ho : o.isCells = false) (_ : o.isWalk = false) : KeepsCell p W (W.putObj l o') :=
  fun v hv => cell_kept hv (grownBy_putObj' W l o') (fun r e => by cases e; exact ⟨o, h, ho⟩)

/-- A piece: no mark stands in it, and it is no longer than what is cut. -/
abbrev Part (c : UInt8) := { x : ByteArray // x.size ≤ 4000 ∧ c ∉ x.data.toList }
def vals {c : UInt8} (l : List (Part c)) : List ByteArray := l.map (·.1)
theorem vals_length {c : UInt8} (l : List (Part c)) : (vals l).length = l.length := by simp [vals]
theorem vals_snoc {c : UInt8} (l : List (Part c)) (x : Part c) : vals (l ++ [x]) = vals l ++ [x.1] := by simp [vals]

theorem pieces_any (s : ByteArray) (c : Int) (w : World) :
    Calls Tryz.prog 122 #[.string s, .int .u8 c] w fun e w' => e = .returned (.func (.func 136) #[] #[.pointer (some ⟨w.heap.size, 0, none⟩), .pointer (some ⟨w.heap.size + 1, 0, none⟩)]) ∧ w' = (w.alloc (.cells #[.string s] 9)).alloc (.cells #[.int .u8 c] 5) := by
  go_enter Tryz.func122, Tryz.ntmps122
  go_wp2
  go_ret
  exact ⟨rfl, rfl⟩

set_option maxHeartbeats 1000000 in
set_option maxRecDepth 100000 in
theorem pieces1_in (n : Nat) (hn : 1 ≤ n) (l Bs Bm : Nat) (s : ByteArray) (c : UInt8) (hs : s.size ≤ 4000) (J Jx : List (Part c) → World → Prop)
    (hY : ∀ (pre : List (Part c)) (x : Part c) (W : World), J pre W → pre.length < (partsOf c s).length → YieldAt Fence.wide (n - 1) Tryz.prog l #[.string x.1] W fun e W' =>
      (e = .returned (.bool true) ∧ J (pre ++ [x]) W' ∧ KeepsCell ⟨Bm, 0, none⟩ W W') ∨ (e = .returned (.bool false) ∧ Jx (pre ++ [x]) W'))
    (W : World) (hBs : W.cell? ⟨Bs, 0, none⟩ = some (.string s)) (hBm : W.cell? ⟨Bm, 0, none⟩ = some (.int .u8 (c.toNat : Int))) (h0 : J [] W) :
    CallsIn Fence.wide n Tryz.prog 136 #[.func (.yield l) #[] #[], .pointer (some ⟨Bs, 0, none⟩), .pointer (some ⟨Bm, 0, none⟩)] W fun e W' => (∃ v, e = .returned v) ∧
      ((∃ ys, vals ys = partsOf c s ∧ J ys W') ∨ (∃ pre, vals pre <+: partsOf c s ∧ Jx pre W')) := by
  refine callsIn_of_wp Tryz.func136 rfl trivial ?_ rfl
  simp only [Tryz.ntmps136, List.size_toArray, List.length_cons, List.length_nil, Nat.reduceAdd, Nat.reduceSub, Array.replicate_succ, Array.replicate_zero, List.push_toArray, List.append_toArray, List.nil_append, List.cons_append]
  gi_wp2
  gi_loopw [4] (fun v wr => ∃ (pre : List (Part c)) (r : ByteArray), v = .string r ∧ r.size ≤ s.size ∧ Hid (partsOf c s = vals pre ++ partsOf c r) ∧ wr.cell? ⟨Bm, 0, none⟩ = some (.int .u8 (c.toNat : Int)) ∧ J pre wr)
    (fun v _ => match v with | .string r => r.size | _ => 0)
  case atStart => exact ⟨[], s, rfl, Nat.le_refl _, rfl, hBm, h0⟩
  case round =>
    obtain ⟨pre, r, rfl, hr, HP, hm, hJ⟩ := hrel
    rcases ixOf_first r.data.toList c with ⟨hi, hno⟩ | ⟨k, hk, hi, hno, hsp⟩
    · have HE : Hid (partsOf c r = [r]) := partsOf_none c r hno
      obtain ⟨fn, tmps, assign, body, hy, hR⟩ := hY pre ⟨r, by omega, hno⟩ wr hJ (by rw [HP.out, HE.out, List.length_append, vals_length]; simp)
      dsimp only at hy
      gi_wp2_with (refine ⟨trivial, ?_⟩; gi_at_call 74; refine (callsIn_wide.2 (ix_of r c _ rfl _)).mono ?_; rintro e w' ⟨rfl, rfl⟩)
      refine hR.mono ?_
      rintro e W3 (⟨rfl, hJ3, hk3⟩ | ⟨rfl, hJx3⟩)
      · gi_wp2
        refine bodyPost_ret (results_none rfl _ _ _) rfl ?_
        exact ⟨⟨_, rfl⟩, .inl ⟨_, by rw [HP.out, HE.out, vals_snoc], hJ3⟩⟩
      · gi_wp2
        refine bodyPost_ret (results_none rfl _ _ _) rfl ?_
        exact ⟨⟨_, rfl⟩, .inr ⟨_, ⟨[], by rw [HP.out, HE.out, vals_snoc]; simp⟩, hJx3⟩⟩
    · have hk' : k < r.size := by simpa using hk
      have HE : Hid (partsOf c r = r.extract 0 k :: partsOf c (r.extract (k + 1) r.size)) := partsOf_more c r k hk' hno hsp
      obtain ⟨fn, tmps, assign, body, hy, hR⟩ := hY pre ⟨r.extract 0 k, by simp; omega, by rw [upto_data]; exact hno⟩ wr hJ (by rw [HP.out, HE.out, List.length_append, vals_length]; simp)
      dsimp only at hy
      clear hsp hk
      gi_wp2_with (refine ⟨trivial, ?_⟩; gi_at_call 74; refine (callsIn_wide.2 (ix_of r c _ rfl _)).mono ?_; rintro e w' ⟨rfl, rfl⟩)
      refine hR.mono ?_
      rintro e W3 (⟨rfl, hJ3, hk3⟩ | ⟨rfl, hJx3⟩)
      · have hm3 := hk3 _ hm
        gi_wp2
        go_roundw
        case rel => exact ⟨_, _, rfl, by simp; omega, by show _ = _; rw [HP.out, HE.out, vals_snoc]; simp, hm3, hJ3⟩
        case measure => simp; omega
      · gi_wp2
        refine bodyPost_ret (results_none rfl _ _ _) rfl ?_
        exact ⟨⟨_, rfl⟩, .inr ⟨_, ⟨partsOf c (r.extract (k + 1) r.size), by rw [HP.out, HE.out, vals_snoc]; simp⟩, hJx3⟩⟩

theorem pieces_stops (n : Nat) (hn : 1 ≤ n) (Bs Bm : Nat) (s : ByteArray) (c : UInt8) (hs : s.size ≤ 4000) (w : World) (hs1 : Bs < w.heap.size) (hm1 : Bm < w.heap.size)
    (hBs : w.cell? ⟨Bs, 0, none⟩ = some (.string s)) (hBm : w.cell? ⟨Bm, 0, none⟩ = some (.int .u8 (c.toNat : Int))) :
    SeqStopsK Fence.wide n Tryz.prog 136 #[.pointer (some ⟨Bs, 0, none⟩), .pointer (some ⟨Bm, 0, none⟩)] (fun x : Part c => #[Value.string x.1]) (KeepsCell ⟨Bm, 0, none⟩) (fun ys => vals ys = partsOf c s) (fun pre => vals pre <+: partsOf c s) (partsOf c s).length w := fun l J Jx W hW _ _ hY h0 =>
  pieces1_in n hn l Bs Bm s c hs J Jx hY W ((hW.cell (p := ⟨Bs, 0, none⟩) hs1).trans hBs) ((hW.cell (p := ⟨Bm, 0, none⟩) hm1).trans hBm) h0
end Go.Proofs.YtgajhmmildbkfaaGreatDoor

/- New blocks: what they hold, and that nothing older has turned. -/
namespace Go.Proofs.YtgajhmmildbkfaaGreatDoor
open Go.RowKit

theorem cells_new (W : World) (cs : Array Value) (t : TypeId) (j : Nat) : (W.alloc (.cells cs t)).cell? ⟨W.heap.size, j, none⟩ = cs[j]? := World.cell?_alloc_mark _ _ _ _ _
theorem drewN_below {B : Nat} {a w : World} (h : Below B a w) (n : Nat) : Below B a (w.drewN n) := h.trans ⟨rfl, rfl, rfl, Nat.le_refl _, fun _ _ => rfl⟩
end Go.Proofs.YtgajhmmildbkfaaGreatDoor

/- New blocks; rows of bytes. -/

/- A host is labels with points between: over lists of bytes. -/
namespace Go.Proofs.YtgajhmmildbkfaaGreatDoor

/-- A byte of a label. -/
def okc (c : UInt8) : Bool := alnum c || c == 45
/-- What is left of a label behind one of its bytes. -/
def tailB (was : UInt8) : List UInt8 → Bool
  | [] => was != 45
  | c :: t => okc c && tailB c t
def labelB : List UInt8 → Bool
  | [] => false
  | c :: t => okc c && c != 45 && tailB c t
theorem alnum_ne46 (c : UInt8) (h : alnum c = true) : c ≠ 46 ∧ c ≠ 45 := by
  constructor <;> (rintro rfl; revert h; decide)
theorem host_labels (l : List UInt8) : ∀ was, hostFrom was l = match splitL 46 l with
    | [] => false
    | p :: r => (if was = 46 then labelB p else tailB was p) && r.all labelB := by
  induction l with
  | nil =>
    intro was
    simp only [hostFrom, splitL, List.all_nil, Bool.and_true]
    by_cases h : was = 46
    · subst h; decide
    · have hb : (was == 46) = false := beq_eq_false_iff_ne.2 h
      rw [if_neg h]
      simp only [hostStep, tailB, hb, bne]
      cases was == 45 <;> rfl
  | cons c t ih =>
    intro was
    have ht := ih c
    have ht46 := ih 46
    rw [hostFrom]
    by_cases hc : c = 46
    · subst hc
      rw [splitL, if_pos rfl]
      simp only []
      rw [ht46]
      obtain ⟨p, r, e⟩ : ∃ p r, splitL 46 t = p :: r := by
        cases h : splitL 46 t with
        | nil => exact absurd h (splitL_ne _ _)
        | cons p r => exact ⟨p, r, rfl⟩
      rw [e]
      by_cases h : was = 46
      · subst h
        have : hostStep 46 46 = false := by decide
        simp [this, labelB]
      · have hb : (was == 46) = false := beq_eq_false_iff_ne.2 h
        simp only [hostStep, tailB, hb, bne, if_neg h]
        cases was == 45 <;> simp
    · have hb1 : (c == 46) = false := beq_eq_false_iff_ne.2 hc
      rw [splitL, if_neg hc]
      obtain ⟨p, r, e⟩ : ∃ p r, splitL 46 t = p :: r := by
        cases h : splitL 46 t with
        | nil => exact absurd h (splitL_ne _ _)
        | cons p r => exact ⟨p, r, rfl⟩
      rw [ht, e]
      simp only [if_neg hc]
      by_cases h : was = 46
      · subst h
        by_cases h45 : c = 45
        · subst h45
          have : hostStep 46 45 = false := by decide
          simp [this, labelB]
        · have hb2 : (c == 45) = false := beq_eq_false_iff_ne.2 h45
          simp only [hostStep, labelB, okc, hb1, hb2, bne]
          cases alnum c <;> simp
      · by_cases h45 : c = 45
        · subst h45
          have hb : (was == 46) = false := beq_eq_false_iff_ne.2 h
          simp only [hostStep, if_neg h, tailB, okc, hb, bne]
          simp
        · have hb2 : (c == 45) = false := beq_eq_false_iff_ne.2 h45
          simp only [hostStep, if_neg h, tailB, okc, hb1, hb2, bne]
          cases alnum c <;> simp
theorem hostL_labels (l : List UInt8) : hostL l = (splitL 46 l).all labelB := by
  unfold hostL
  rw [host_labels]
  cases h : splitL 46 l with
  | nil => exact absurd h (splitL_ne _ _)
  | cons p r => simp
end Go.Proofs.YtgajhmmildbkfaaGreatDoor

/- A path cleaned by the program. -/
namespace Go.Proofs.YtgajhmmildbkfaaGreatDoor
open Go.RowKit Go.Shelf
attribute [local go_sem] Oper.semAt_some

theorem setCell_size (W : World) (a : Addr) (v : Value) : (W.setCell a v).heap.size = W.heap.size := by simp [World.setCell]
theorem size_of {W w2 : World} {a : Addr} {v : Value} {o : Obj} {r : Option Nat} {N : Nat} (hg : ((W.setCell a v).alloc o).grownBy w2 r) (h : N ≤ W.heap.size) : N ≤ w2.heap.size := by
  have h9 := hg.size
  rw [World.size_alloc, setCell_size] at h9
  omega
theorem cell_one_at (X : World) (u : Value) (t : TypeId) (z : Nat) (hz : X.heap.size = z) : ∀ j v, [u][j]? = some v → (X.alloc (.cells #[u] t)).cell? ((⟨z, 0, none⟩ : Addr).add j) = some v := by
  subst hz
  exact cell_one_new _ _ _
theorem vals_snoc_mk {c : UInt8} (l : List (Part c)) (x : ByteArray) (h : x.size ≤ 4000 ∧ c ∉ x.data.toList) : vals (l ++ [⟨x, h⟩]) = vals l ++ [x] := vals_snoc l ⟨x, h⟩
/-- A byte more behind a row that a call owns: where it then lies. -/
theorem wpListIn_append_b {F : Fence} {n' : Nat} {P : Program} {ops : Array Oper} {rest : List Oper} {o : Oper} {a : Act} {Q : Exit → Act → World → Prop} (w : World) (hg : o.guard = none) (sl x : Operand) (t : TypeId)
    (hop : o.op = Op.call { callee := Callee.builtin Builtin.append, args := #[sl, x], argTypes := #[t, t] })
    (base : Nat) (e : TypeId) (i : TypeInfo) (h1 : P.underlying t = some (.slice e)) (h2 : P.info? e = some i) (h3 : i.zero = some (.int .u8 0)) (h4 : i.size = 1) (h5 : i.bytes = 1)
    (g k cap : Nat) (xs : List Value) (hs : a.eval sl = .slice (some ⟨g, 0, none⟩) k cap) (hown : w.ownsRow base e 1 (.slice (some ⟨g, 0, none⟩) k cap) k xs) (ad : Addr) (c : Nat) (u : Value) (hx : a.eval x = .slice (some ad) 1 c)
    (hc : ∀ j v, [u][j]? = some v → w.cell? (ad.add j) = some v) (h1c : u.oneCell' = true) (b1 : k + 1 ≤ 140737488355328) (b3 : base ≤ w.heap.size)
    (hK : ∀ g' cap' w', w'.ownsRow base e 1 (.slice (some ⟨g', 0, none⟩) (k + 1) cap') (k + 1) (xs ++ [u]) → w.grownBy w' (some g) → (k + 1 ≤ cap → g' = g ∧ cap' = cap) → wpListIn F n' P ops Q rest (a.put o.dst (.slice (some ⟨g', 0, none⟩) (k + 1) cap')) w') :
    wpListIn F n' P ops Q (o :: rest) a w := by
  refine wpListIn_plain hg fun K hK' => ?_
  obtain ⟨v', w', hrun, r1, r2, _⟩ := run_append_own (P := P) w base t o.type e i (.int .u8 0) 1 1 h1 h2 h3 h4 h5 rfl (by decide) _ k xs hown ad 1 c [u] rfl hc (fun v hv => by simp at hv; subst hv; exact h1c) (by unfold maxLen; omega) (by omega) b3
  obtain ⟨g', cap', rfl⟩ := ownsRow_succ r1
  have r3 : k + 1 ≤ cap → g' = g ∧ cap' = cap := fun hf => by
    obtain ⟨w2, hrun2, _, _⟩ := run_append_fits (P := P) w base t o.type e i 1 h1 h2 h4 g k cap xs hown ad 1 c [u] rfl hc (fun v hv => by simp at hv; subst hv; exact h1c) hf
    rw [hrun] at hrun2
    injection hrun2 with e1 _
    injection e1 with e1 _ e3
    injection e1 with e1
    injection e1 with e1
    exact ⟨e1, e3⟩
  unfold Oper.wpIn
  refine ⟨?_, ?_⟩
  · simp [Oper.about, hop, resolve, Target.leads, Sem.run_pure]
  · rw [Oper.semAt_plain F _ _ (by rw [hop]; intro c hc'; cases hc')]
    simp [execOp, hop, resolve, invoke, builtin, hs, hx, hrun, Result.andThen]
    exact hK' _ _ (hK g' cap' w' r1 r2 r3)
/-- A text behind a row that a call owns: where it then lies. -/
theorem wpListIn_append_s {F : Fence} {n' : Nat} {P : Program} {ops : Array Oper} {rest : List Oper} {o : Oper} {a : Act} {Q : Exit → Act → World → Prop} (w : World) (hgd : o.guard = none) (sl x : Operand) (t u : TypeId)
    (ho : o.op = .call { callee := .builtin .append, args := #[sl, x], argTypes := #[t, u] })
    (base : Nat) (e : TypeId) (i : TypeInfo) (ht : P.underlying t = some (.slice e)) (hu : P.underlying u = some .string) (hi : P.info? e = some i) (hz : i.zero = some (.int .u8 0))
    (hsize : i.size = 1) (hby : i.bytes = 1)
    (g n cap : Nat) (xs : List Value) (hs : a.eval sl = .slice (some ⟨g, 0, none⟩) n cap) (hown : w.ownsRow base e 1 (.slice (some ⟨g, 0, none⟩) n cap) n xs) (s : ByteArray) (hx : a.eval x = .string s) (hn : 1 ≤ n)
    (hbytes : n + s.size ≤ 140737488355328) (hbase : base ≤ w.heap.size)
    (h : ∀ g' cap' w', w'.ownsRow base e 1 (.slice (some ⟨g', 0, none⟩) (n + s.size) cap') (n + s.size) (xs ++ Lib.strCells s) → w.grownBy w' (some g) → (n + s.size ≤ cap → g' = g ∧ cap' = cap) → wpListIn F n' P ops Q rest (a.put o.dst (.slice (some ⟨g', 0, none⟩) (n + s.size) cap')) w') : wpListIn F n' P ops Q (o :: rest) a w := by
  refine wpListIn_plain hgd fun K hK => ?_
  obtain ⟨v', w', hr, h2, h3, h4⟩ := Lib.run_append_own_string (P := P) w base t u o.type e i ht hu hi hz hsize hby _ n xs hown s (by unfold maxLen; omega) hbytes hbase
  obtain ⟨g', cap', rfl⟩ : ∃ g' cap', v' = .slice (some ⟨g', 0, none⟩) (n + s.size) cap' := by
    rcases h2.2 with ⟨_, h0⟩ | ⟨g', cap', _, h0, _⟩
    · omega
    · exact ⟨g', cap', h0⟩
  have r3 : n + s.size ≤ cap → g' = g ∧ cap' = cap := fun hf => by
    rcases hown.2 with ⟨h0, _⟩ | ⟨gg, cc, cur, h0, _, hgb, _, _, hsz, _⟩
    · cases h0
    · injection h0 with e1 _ e3
      injection e1 with e1
      injection e1 with e1
      subst e1 e3
      have hrun2 := Lib.run_append_room_string (P := P) w t u o.type e i ht hu hi hsize g n cap cur hgb s hf (by omega)
      rw [hr] at hrun2
      injection hrun2 with e1 _
      injection e1 with e1 _ e3
      injection e1 with e1
      injection e1 with e1
      exact ⟨e1, e3⟩
  unfold Oper.wpIn
  refine ⟨?_, ?_⟩
  · simp [Oper.about, ho, resolve, Target.leads, Sem.run_pure]
  · rw [Oper.semAt_plain F _ _ (by rw [ho]; intro c hc'; cases hc')]
    simp [execOp, ho, resolve, invoke, builtin, hs, hx, hr, Result.andThen]
    exact hK _ _ (h g' cap' w' h2 h3 r3)
theorem row_ne {w : World} {base : Nat} {e t : TypeId} {g n cap B : Nat} {xs : List Value} {u : Value} (h : w.ownsRow base e 1 (.slice (some ⟨g, 0, none⟩) n cap) n xs) (hb : Boxed w B t u) (hn : 2 ≤ n) : g ≠ B := by
  rintro rfl
  rcases h.2 with ⟨h0, _⟩ | ⟨gg, cc, cur, h0, _, hgb, hle, _, hsz, _⟩
  · cases h0
  · injection h0 with e1 _ e3
    injection e1 with e1
    injection e1 with e1
    subst e1 e3
    have := hgb.symm.trans hb
    simp only [Option.some.injEq, Obj.cells.injEq] at this
    rw [this.1] at hsz
    simp at hsz
    omega
theorem row_le {w : World} {base : Nat} {e : TypeId} {g n cap : Nat} {xs : List Value} (h : w.ownsRow base e 1 (.slice (some ⟨g, 0, none⟩) n cap) n xs) : n ≤ cap := by
  rcases h.2 with ⟨h0, _⟩ | ⟨gg, cc, cur, h0, _, hgb, hle, _⟩
  · cases h0
  · injection h0 with e1 _ e3
    omega

/-- A row that a call owns, shorter. -/
theorem ownsRow_take {w : World} {base : Nat} {e : TypeId} {g n cap : Nat} {xs : List Value} (h : w.ownsRow base e 1 (.slice (some ⟨g, 0, none⟩) n cap) n xs) (k : Nat) (hk : k ≤ n) : w.ownsRow base e 1 (.slice (some ⟨g, 0, none⟩) k cap) k (xs.take k) := by
  obtain ⟨h1, h2⟩ := h
  rcases h2 with ⟨h2, _⟩ | ⟨g', cap', cur, h2, h3, h4, h5, h6, h7, h8⟩
  · cases h2
  · injection h2 with e1 _ e3
    injection e1 with e1
    injection e1 with e1
    subst e1 e3
    refine ⟨by simp; omega, .inr ⟨g, cap, cur, rfl, h3, h4, by omega, h6, h7, ?_⟩⟩
    rw [← h8, List.take_take, Nat.mul_one, Nat.mul_one, Nat.min_eq_left hk]
theorem own_slice {w : World} {base : Nat} {e : TypeId} {v : Value} {n : Nat} {xs : List Value} (h : w.ownsRow base e 1 v n xs) (hv : v ≠ .slice none 0 0) : ∃ g cap, v = .slice (some ⟨g, 0, none⟩) n cap ∧ n ≤ cap ∧ base ≤ g ∧ g < w.heap.size := by
  rcases h.2 with ⟨h2, _⟩ | ⟨g', cap', cur, h2, h3, h4, h5, _⟩
  · exact absurd h2 hv
  · exact ⟨g', cap', h2, h5, h3, (Array.getElem?_eq_some_iff.1 h4).1⟩
def cellsB (l : List UInt8) : List Value := l.map fun c => Value.int .u8 (c.toNat : Int)
theorem strCells_eq (s : ByteArray) : Lib.strCells s = cellsB s.data.toList := rfl

/-- What lies in the loop's own variables: the row that is gathered, the last part, the mark. -/
structure CI (N Bo Bl Bm g cap : Nat) (l : List UInt8) (la : ByteArray) (W : World) : Prop where
  box : Boxed W Bo 83 (.slice (some ⟨g, 0, none⟩) l.length cap)
  row : W.ownsRow N 5 1 (.slice (some ⟨g, 0, none⟩) l.length cap) l.length (cellsB l)
  gm : g ≠ Bm
  cap1 : 1 ≤ cap
  las : Boxed W Bl 9 (.string la)
  mark : Boxed W Bm 5 (.int .u8 47)
theorem CI.grown {N Bo Bl Bm g cap : Nat} {l : List UInt8} {la : ByteArray} {W W' : World} {r : Option Nat} (h : CI N Bo Bl Bm g cap l la W) (hg : W.grownBy W' r) (h1 : some Bo ≠ r) (h2 : some Bl ≠ r) (h3 : some Bm ≠ r) (h4 : some g ≠ r) : CI N Bo Bl Bm g cap l la W' :=
  ⟨h.box.kept hg h1, h.row.kept hg (.inr h4), h.gm, h.cap1, h.las.kept hg h2, h.mark.kept hg h3⟩
theorem CI.alloc {N Bo Bl Bm g cap : Nat} {l : List UInt8} {la : ByteArray} {W : World} (h : CI N Bo Bl Bm g cap l la W) (o : Obj) : CI N Bo Bl Bm g cap l la (W.alloc o) :=
  h.grown (World.grownBy_alloc W o none) (by simp) (by simp) (by simp) (by simp)
theorem CI.g_cells {N Bo Bl Bm g cap : Nat} {l : List UInt8} {la : ByteArray} {W : World} (h : CI N Bo Bl Bm g cap l la W) : ∃ cur, W.heap[g]? = some (.cells cur 5 (0, 0)) ∧ N ≤ g := by
  rcases h.row.2 with ⟨h0, _⟩ | ⟨gg, cc, cur, h0, hN, hgb, _⟩
  · cases h0
  · injection h0 with e1 _ _
    injection e1 with e1
    injection e1 with e1
    subst e1
    exact ⟨cur, hgb, hN⟩
theorem CI.own (N Bo Bl Bm : Nat) {β : Type} (f : β → List UInt8) (k : β → ByteArray) : Go.Own (fun s W => ∃ g cap, CI N Bo Bl Bm g cap (f s) (k s) W) := by
  rintro s A B row ⟨g, cap, h⟩ hg hr
  obtain ⟨cur, hcur, _⟩ := h.g_cells
  have key : ∀ b, (∃ c t z, A.heap[b]? = some (.cells c t z)) → some b ≠ row := by
    rintro b ⟨c, t, z, hb⟩ e
    obtain ⟨o, ho, hc⟩ := hr b e.symm
    rw [hb] at ho
    cases ho
    cases hc
  exact ⟨g, cap, h.grown hg (key _ ⟨_, _, _, h.box⟩) (key _ ⟨_, _, _, h.las⟩) (key _ ⟨_, _, _, h.mark⟩) (key _ ⟨_, _, _, hcur⟩)⟩
theorem CI.last {N Bo Bl Bm g cap : Nat} {l : List UInt8} {la : ByteArray} {W : World} (h : CI N Bo Bl Bm g cap l la W) (hol : Bo ≠ Bl) (hlm : Bl ≠ Bm) (la' : ByteArray) : CI N Bo Bl Bm g cap l la' (W.setCell ⟨Bl, 0, none⟩ (.string la')) := by
  have hg : some Bl ≠ some g := fun e => (h.las.not_row (by decide) h.row) (by simpa [Value.ownBlock] using e)
  exact ⟨h.box.other hol _, h.row.kept (grownBy_setCell' W Bl _) (.inr (fun e => hg (by simpa [Value.ownBlock] using e.symm))), h.gm, h.cap1, h.las.set _, h.mark.other (Ne.symm hlm) _⟩
/-- A new row is laid into its variable. -/
theorem CI.stored {N Bo Bl Bm g cap g' cap' : Nat} {l l' : List UInt8} {la : ByteArray} {W w1 : World} (h : CI N Bo Bl Bm g cap l la W) (hol : Bo ≠ Bl) (hom : Bo ≠ Bm) (hN : N ≤ Bo) (hg : W.grownBy w1 (some g)) (n' : Nat) (hn' : l'.length = n') (hr : w1.ownsRow N 5 1 (.slice (some ⟨g', 0, none⟩) n' cap') n' (cellsB l')) (hgm : Boxed w1 Bm 5 (.int .u8 47) → g' ≠ Bm) (hc : 1 ≤ cap') :
    CI N Bo Bl Bm g' cap' l' la (w1.setCell ⟨Bo, 0, none⟩ (.slice (some ⟨g', 0, none⟩) n' cap')) ∧ KeepsOthers W (w1.setCell ⟨Bo, 0, none⟩ (.slice (some ⟨g', 0, none⟩) n' cap')) ∧ Below N W (w1.setCell ⟨Bo, 0, none⟩ (.slice (some ⟨g', 0, none⟩) n' cap')) ∧ w1.cell? ⟨Bo, 0, none⟩ = some (.slice (some ⟨g, 0, none⟩) l.length cap) ∧ w1.frozen? ⟨Bo, 0, none⟩ = false := by
  subst hn'
  have ho : some Bo ≠ some g := fun e => (h.box.not_row (by decide) h.row) (by simpa [Value.ownBlock] using e)
  have hl : some Bl ≠ some g := fun e => (h.las.not_row (by decide) h.row) (by simpa [Value.ownBlock] using e)
  have hm : some Bm ≠ some g := fun e => h.gm (by injection e with e; exact e.symm)
  have b1 := h.box.kept hg ho
  have l1 := h.las.kept hg hl
  have m1 := h.mark.kept hg hm
  obtain ⟨cur, hcur, hNg⟩ := h.g_cells
  have ho' : some Bo ≠ some g' := fun e => (b1.not_row (by decide) hr) (by simpa [Value.ownBlock] using e)
  refine ⟨⟨b1.set _, hr.kept (grownBy_setCell' w1 Bo _) (.inr (fun e => ho' (by simpa [Value.ownBlock] using e.symm))), hgm m1, hc, l1.other (Ne.symm hol) _, m1.other (Ne.symm hom) _⟩, ?_, ?_, b1.cell, b1.frozen⟩
  · exact (KeepsOthers.of_grownBy hg (fun j o ej hj => by injection ej with ej; subst ej; rw [hcur] at hj; cases hj; rfl)).trans (KeepsOthers.setCell _ _ _)
  · have hbw : Below N W w1 := ⟨hg.os, hg.tape, hg.output, hg.size, fun k hk => by
      have hgb := (Array.getElem?_eq_some_iff.1 hcur).1
      exact hg.block k (by omega) (fun e => by injection e with e; omega)⟩
    exact hbw.setCell (p := ⟨Bo, 0, none⟩) hN _
theorem CI.drew {N Bo Bl Bm g cap : Nat} {l : List UInt8} {la : ByteArray} {W : World} (h : CI N Bo Bl Bm g cap l la W) : CI N Bo Bl Bm g cap l la W.drew :=
  ⟨h.box, h.row.drew, h.gm, h.cap1, h.las, h.mark⟩
theorem CI.keeps {N Bo Bl Bm g cap g' cap' : Nat} {l l' : List UInt8} {la la' : ByteArray} {W W' : World} (h : CI N Bo Bl Bm g cap l la W) (h' : CI N Bo Bl Bm g' cap' l' la' W') : KeepsCell ⟨Bm, 0, none⟩ W W' := by
  intro v hv
  rw [h.mark.cell] at hv
  rw [← hv]
  exact h'.mark.cell
theorem CI.row_at {N Bo Bl Bm g cap : Nat} {l : List UInt8} {la : ByteArray} {W : World} (h : CI N Bo Bl Bm g cap l la W) (n : Nat) (hn : l.length = n) : W.ownsRow N 5 1 (.slice (some ⟨g, 0, none⟩) n cap) n (cellsB l) := by
  subst hn
  exact h.row
theorem CI.cell_at {N Bo Bl Bm g cap : Nat} {l : List UInt8} {la : ByteArray} {W : World} (h : CI N Bo Bl Bm g cap l la W) (n : Nat) (hn : l.length = n) : W.cell? ⟨Bo, 0, none⟩ = some (.slice (some ⟨g, 0, none⟩) n cap) := by
  subst hn
  exact h.box.cell
theorem cellsB_append (a b : List UInt8) : cellsB (a ++ b) = cellsB a ++ cellsB b := by simp [cellsB]
/-- A byte more is laid into the variable. -/
theorem CI.byte {N Bo Bl Bm g cap g' cap' : Nat} {l : List UInt8} {la : ByteArray} {W w1 : World} (h : CI N Bo Bl Bm g cap l la W) (hol : Bo ≠ Bl) (hom : Bo ≠ Bm) (hN : N ≤ Bo) (n : Nat) (hn : l.length = n) (c : UInt8) (tmp : Obj) (hr : w1.ownsRow N 5 1 (.slice (some ⟨g', 0, none⟩) (n + 1) cap') (n + 1) (cellsB l ++ [.int .u8 (c.toNat : Int)])) (hg : (W.alloc tmp).grownBy w1 (some g)) (hlies : n + 1 ≤ cap → g' = g ∧ cap' = cap) :
    CI N Bo Bl Bm g' cap' (l ++ [c]) la (w1.setCell ⟨Bo, 0, none⟩ (.slice (some ⟨g', 0, none⟩) (n + 1) cap')) ∧ KeepsOthers W (w1.setCell ⟨Bo, 0, none⟩ (.slice (some ⟨g', 0, none⟩) (n + 1) cap')) ∧ Below N (W.alloc tmp) (w1.setCell ⟨Bo, 0, none⟩ (.slice (some ⟨g', 0, none⟩) (n + 1) cap')) ∧ w1.cell? ⟨Bo, 0, none⟩ = some (.slice (some ⟨g, 0, none⟩) n cap) ∧ w1.frozen? ⟨Bo, 0, none⟩ = false := by
  obtain ⟨a1, a2, a3, a4, a5⟩ := (h.alloc tmp).stored hol hom hN hg (n + 1) (l' := l ++ [c]) (by simp [hn]) (by rw [cellsB_append]; exact hr) (fun hm => by
    by_cases h0 : n + 1 ≤ cap
    · rw [(hlies h0).1]
      exact h.gm
    · exact row_ne hr hm (by have := h.cap1; omega)) (by have := row_le hr; omega)
  rw [hn] at a4
  exact ⟨a1, (KeepsOthers.alloc W tmp).trans a2, a3, a4, a5⟩
/-- A text more is laid into the variable. -/
theorem CI.text {N Bo Bl Bm g cap g' cap' : Nat} {l : List UInt8} {la : ByteArray} {W w1 : World} (h : CI N Bo Bl Bm g cap l la W) (hol : Bo ≠ Bl) (hom : Bo ≠ Bm) (hN : N ≤ Bo) (n : Nat) (hn : l.length = n) (h1 : 1 ≤ n) (x : ByteArray) (hr : w1.ownsRow N 5 1 (.slice (some ⟨g', 0, none⟩) (n + x.size) cap') (n + x.size) (cellsB l ++ Lib.strCells x)) (hg : W.grownBy w1 (some g)) (hlies : n + x.size ≤ cap → g' = g ∧ cap' = cap) :
    CI N Bo Bl Bm g' cap' (l ++ x.data.toList) la (w1.setCell ⟨Bo, 0, none⟩ (.slice (some ⟨g', 0, none⟩) (n + x.size) cap')) ∧ KeepsOthers W (w1.setCell ⟨Bo, 0, none⟩ (.slice (some ⟨g', 0, none⟩) (n + x.size) cap')) ∧ Below N W (w1.setCell ⟨Bo, 0, none⟩ (.slice (some ⟨g', 0, none⟩) (n + x.size) cap')) ∧ w1.cell? ⟨Bo, 0, none⟩ = some (.slice (some ⟨g, 0, none⟩) n cap) ∧ w1.frozen? ⟨Bo, 0, none⟩ = false := by
  have hx : x.data.toList.length = x.size := Array.length_toList
  obtain ⟨a1, a2, a3, a4, a5⟩ := h.stored hol hom hN hg (n + x.size) (l' := l ++ x.data.toList) (by rw [List.length_append, hn, hx]) (by rw [cellsB_append]; exact hr) (fun hm => by
    by_cases h0 : n + x.size ≤ cap
    · rw [(hlies h0).1]
      exact h.gm
    · have := row_le (h.row_at n hn)
      exact row_ne hr hm (by omega)) (by have := row_le hr; omega)
  rw [hn] at a4
  exact ⟨a1, a2, a3, a4, a5⟩
/-- The row is cut. -/
theorem CI.cut {N Bo Bl Bm g cap : Nat} {l : List UInt8} {la : ByteArray} {W : World} (h : CI N Bo Bl Bm g cap l la W) (hol : Bo ≠ Bl) (hom : Bo ≠ Bm) (hN : N ≤ Bo) (k : Nat) (hk : k ≤ l.length) :
    CI N Bo Bl Bm g cap (l.take k) la (W.setCell ⟨Bo, 0, none⟩ (.slice (some ⟨g, 0, none⟩) k cap)) := by
  obtain ⟨a1, _⟩ := h.stored hol hom hN (⟨rfl, rfl, rfl, Nat.le_refl _, fun _ _ _ => rfl⟩) k (l' := l.take k) (by simp; omega) (by
    have := ownsRow_take h.row k hk
    rw [show cellsB (l.take k) = (cellsB l).take k by simp [cellsB, List.map_take]]
    exact this) (fun _ => h.gm) h.cap1
  exact a1
theorem CI.row_cells {N Bo Bl Bm g cap : Nat} {l : List UInt8} {la : ByteArray} {W : World} (h : CI N Bo Bl Bm g cap l la W) : ∀ j (hj : j < l.length), W.cell? ⟨g, j, none⟩ = some (.int .u8 (l[j].toNat : Int)) := fun j hj => by
  rw [h.row.cellAt j (by simpa using hj)]
  simp [cellsB, hj]

set_option maxRecDepth 100000 in
set_option maxHeartbeats 2000000 in
theorem clean_any (s : ByteArray) (hs : s.size ≤ 3500) (w : World) :
    Calls Tryz.prog 99 #[.string s] w fun e w' => e = .returned (.string (bs (cleanL s.data.toList))) ∧ Below w.heap.size w w' := by
  obtain ⟨i0, hi0, hz0, hz1, hz2⟩ := info_parts info5
  obtain ⟨b, HB⟩ : ∃ b : ByteArray, Hid (bs (bodyL s.data.toList) = b) := ⟨_, rfl⟩
  have hbz : b.size ≤ 3500 := by
    rw [← HB.out, bs_size]
    have e : s.data.toList.length = s.size := Array.length_toList
    have h : (bodyL s.data.toList).length ≤ s.data.toList.length := by
      unfold bodyL
      split
      · rename_i h
        rw [h]
        simp
      · exact Nat.le_refl _
    omega
  refine (callsIn_wide (n := 3)).1 ?_
  refine callsIn_of_wp_marks Tryz.func99 rfl trivial ?_ rfl
  simp only [Tryz.ntmps99, List.size_toArray, List.length_cons, List.length_nil, Nat.reduceAdd, Nat.reduceSub, Array.replicate_succ, Array.replicate_zero, List.push_toArray, List.append_toArray, List.nil_append, List.cons_append]
  gi_wp2_with (first
    | (gi_at_make; refine wpListIn_make_own _ rfl _ _ 83 rfl w.heap.size 5 i0 (.int .u8 0) 1 Tryz.underlying83 hi0 hz0 hz1 .i64 .i64 _ (s.size + 1) rfl rfl (by omega) (by rw [hz2]; omega) (by unfold maxLen; omega) (Nat.le_refl _) ?_; intro w1 hown1 hgrow1)
    | (refine ⟨trivial, ?_⟩; gi_at_call 123; refine (callsIn_wide.2 (trimP s (by omega) _)).mono ?_; rintro e w' ⟨rfl, rfl⟩; rw [HB.out])
    | (refine ⟨trivial, ?_⟩; gi_at_call 122; refine (callsIn_wide.2 (pieces_any _ _ _)).mono ?_; rintro e w' ⟨rfl, rfl⟩))
  have hb1 : Below w.heap.size w w1 := (Below.refl _ _).grown hgrow1 (Nat.le_refl _) (by simp)
  have hg1 : w.heap.size < w1.heap.size := (hown1.lt w.heap.size rfl).2
  have q0 := Boxed.new w1 83 (.slice (some ⟨w.heap.size, 0, none⟩) 0 (s.size + 1))
  have q1 := Boxed.new (w1.alloc (.cells #[.slice (some ⟨w.heap.size, 0, none⟩) 0 (s.size + 1)] 83)) 9 (.string ⟨#[]⟩)
  have q2 := Boxed.new ((w1.alloc (.cells #[.slice (some ⟨w.heap.size, 0, none⟩) 0 (s.size + 1)] 83)).alloc (.cells #[.string ⟨#[]⟩] 9)) 9 (.string b)
  have q3 := Boxed.new (((w1.alloc (.cells #[.slice (some ⟨w.heap.size, 0, none⟩) 0 (s.size + 1)] 83)).alloc (.cells #[.string ⟨#[]⟩] 9)).alloc (.cells #[.string b] 9)) 5 (.int .u8 47)
  simp only [World.size_alloc] at q1 q2 q3
  have hC0 : CI w.heap.size w1.heap.size (w1.heap.size + 1) (w1.heap.size + 1 + 1 + 1) w.heap.size (s.size + 1) (outL []) (lastP []) ((((w1.alloc (.cells #[.slice (some ⟨w.heap.size, 0, none⟩) 0 (s.size + 1)] 83)).alloc (.cells #[.string ⟨#[]⟩] 9)).alloc (.cells #[.string b] 9)).alloc (.cells #[.int .u8 47] 5)) :=
    ⟨((q0.alloc _).alloc _).alloc _, (((hown1.alloc _).alloc _).alloc _).alloc _, by omega, by omega, (q1.alloc _).alloc _, q3⟩
  have hB0 : Below w.heap.size w ((((w1.alloc (.cells #[.slice (some ⟨w.heap.size, 0, none⟩) 0 (s.size + 1)] 83)).alloc (.cells #[.string ⟨#[]⟩] 9)).alloc (.cells #[.string b] 9)).alloc (.cells #[.int .u8 47] 5)) := (((hb1.alloc (by omega) _).alloc (by simp; omega) _).alloc (by simp; omega) _).alloc (by simp; omega) _
  refine wpIn_rangeFunc_ownG rfl (by omega) (gf := 136) (lb := #[.pointer (some ⟨w1.heap.size + 1 + 1, 0, none⟩), .pointer (some ⟨w1.heap.size + 1 + 1 + 1, 0, none⟩)]) rfl trivial (enters_of Tryz.func136 (by kernel_rfl) rfl)
    (pieces_stops 2 (by omega) (w1.heap.size + 1 + 1) (w1.heap.size + 1 + 1 + 1) b 47 (by omega) _ (by simp) (by simp) (q2.alloc _).cell q3.cell) keepsCell_t (keepsCell_b _) (Below.refl _ _) (fun _ => rfl)
    (fun pre W => (∃ g cap, CI w.heap.size w1.heap.size (w1.heap.size + 1) (w1.heap.size + 1 + 1 + 1) g cap (outL (vals pre)) (lastP (vals pre)) W) ∧ Below w.heap.size w W)
    (fun _ _ _ => False)
    (OwnFrom.and (Own.from (CI.own w.heap.size w1.heap.size (w1.heap.size + 1) (w1.heap.size + 1 + 1 + 1) (fun pre : List (Part 47) => outL (vals pre)) (fun pre => lastP (vals pre))) _) (ownFrom_below (Nat.le_refl _) (by simp; omega)))
    (fun _ _ _ _ _ hs _ _ => hs)
    ⟨⟨_, _, hC0⟩, hB0⟩
    (fun x => { tmps := #[.string s, undef, .string ⟨#[]⟩, .pointer (some ⟨w1.heap.size, 0, none⟩), .pointer (some ⟨w1.heap.size + 1, 0, none⟩), .string x.1, .string s, .int .i64 s.size, .int .i64 (s.size + 1), .slice (some ⟨w.heap.size, 0, none⟩) 0 (s.size + 1), .string s, .string b, .func (.func 136) #[] #[.pointer (some ⟨w1.heap.size + 1 + 1, 0, none⟩), .pointer (some ⟨w1.heap.size + 1 + 1 + 1, 0, none⟩)], .string x.1, undef, undef, undef, undef, undef, undef, undef, undef, undef, undef, undef, undef, undef, undef, undef, undef, undef, undef, undef, undef, undef, undef, undef, undef, undef, undef, undef, undef], defers := [] }) ?assign ?body ?done ?stop
  case assign =>
    intro l x W K hK
    gi_wp2
    exact hK
  case body =>
    rintro l pre ⟨x, hx1, hx2⟩ W ⟨⟨g, cap, hC⟩, hB⟩ hlt
    dsimp only
    have HE : Hid (vals (pre ++ [⟨x, hx1, hx2⟩]) = vals pre ++ [x]) := vals_snoc_mk pre x ⟨hx1, hx2⟩
    have hcl := hC.las.cell
    have hfl := hC.las.frozen
    have HL : Hid (lastP (vals pre ++ [x]) = x) := lastP_snoc _ _
    have HC : Hid (CI w.heap.size w1.heap.size (w1.heap.size + 1) (w1.heap.size + 1 + 1 + 1) g cap (outL (vals pre)) (lastP (vals pre)) W) := hC
    have HC2 : Hid (CI w.heap.size w1.heap.size (w1.heap.size + 1) (w1.heap.size + 1 + 1 + 1) g cap (outL (vals pre)) x (W.setCell ⟨w1.heap.size + 1, 0, none⟩ (.string x))) := hC.last (by omega) (by omega) x
    have hB2 : Below w.heap.size w (W.setCell ⟨w1.heap.size + 1, 0, none⟩ (.string x)) := hB.setCell (p := ⟨w1.heap.size + 1, 0, none⟩) (by show w.heap.size ≤ w1.heap.size + 1; omega) _
    have hco := HC2.out.box.cell
    have hfo := HC2.out.box.frozen
    clear hC
    by_cases hd1 : x.data.toList = [46]
    · have q1 : (x.toList == [46]) = true := by rw [ByteArray.toList_eq, hd1]; rfl
      have HO : Hid (outL (vals pre ++ [x]) = outL (vals pre)) := by
        show _ = _
        rw [outL_snoc, hd1]
        rfl
      gi_wp2
      refine ⟨(KeepsOthers.setCell _ _ _).from _, HC.out.keeps HC2.out, ⟨g, cap, ?_⟩, hB2⟩
      rw [HE.out, HO.out, HL.out]
      exact HC2
    · have q1 : (x.toList == [46]) = false := by rw [ByteArray.toList_eq]; exact beq_eq_false_iff_ne.2 hd1
      by_cases hd2 : x.data.toList = [46, 46]
      · have q2 : (x.toList == [46, 46]) = true := by rw [ByteArray.toList_eq, hd2]; rfl
        have hcut : ∃ k : Nat, k ≤ (outL (vals pre)).length ∧ outL (vals pre ++ [x]) = (outL (vals pre)).take k ∧ (lastL 47 (outL (vals pre)) = (k : Int) ∨ (lastL 47 (outL (vals pre)) = -1 ∧ k = 0)) := by
          rw [outL_snoc, cleanStep, if_neg hd1, if_pos hd2]
          simp only [Bool.false_eq_true, if_false]
          have hpl : ∀ q ∈ stk [] (lists (vals pre)), (47 : UInt8) ∉ q := stk_plain _ (fun p hp => by
            unfold lists at hp
            obtain ⟨y, hy, rfl⟩ := List.mem_map.1 hp
            unfold vals at hy
            obtain ⟨z, _, rfl⟩ := List.mem_map.1 hy
            exact z.2.2) [] (by simp)
          unfold outL
          rcases List.eq_nil_or_concat (stk [] (lists (vals pre))) with h | ⟨a, p, h⟩
          · rw [h]
            exact ⟨0, Nat.zero_le _, rfl, .inr ⟨rfl, rfl⟩⟩
          · rw [h, List.concat_eq_append] at hpl ⊢
            rw [List.dropLast_concat, flat_snoc]
            exact ⟨(flat a).length, by simp, by simp, .inl (lastL_some 47 p (hpl p (by simp)) _)⟩
        have hlen : (outL (vals pre)).length ≤ 4001 * 4001 := by
          have h1 := outL_len (vals pre) (fun p hp => by
            obtain ⟨y, _, rfl⟩ := List.mem_map.1 hp
            exact y.2.1)
          rw [vals_length] at h1
          have h2 := parts_length 47 b
          have h3 : pre.length ≤ 4001 := by omega
          have h4 : pre.length * 4001 ≤ 4001 * 4001 := Nat.mul_le_mul_right _ h3
          omega
        generalize outL (vals pre) = O at HC HC2 hcut hlen hco hfo
        obtain ⟨k, hk, hO, hz⟩ := hcut
        obtain ⟨n, hn⟩ : ∃ n, O.length = n := ⟨_, rfl⟩
        have HO : Hid (outL (vals pre ++ [x]) = O.take k) := hO
        have HCut : Hid (CI w.heap.size w1.heap.size (w1.heap.size + 1) (w1.heap.size + 1 + 1 + 1) g cap (O.take k) x ((W.setCell ⟨w1.heap.size + 1, 0, none⟩ (.string x)).setCell ⟨w1.heap.size, 0, none⟩ (.slice (some ⟨g, 0, none⟩) k cap))) := HC2.out.cut (by omega) (by omega) (by omega) k hk
        have hncap := row_le HC2.out.row
        have hcells := HC2.out.row_cells
        rw [hn] at hk hlen hco hncap
        have HN : Hid (O.length = n) := hn
        have HD : Hid (∀ j (hj : j < O.length), (W.setCell ⟨w1.heap.size + 1, 0, none⟩ (.string x)).cell? ⟨g, j, none⟩ = some (.int .u8 (O[j].toNat : Int))) := hcells
        clear hO hcells hn hd1 hd2
        have hmx : Tryz.prog.follows .mixedOrders = true := by kernel_rfl
        rcases hz with hz | ⟨hz, hk0⟩
        · have hk2 : (k : Int) ≤ (cap : Int) := by omega
          have hk3 : (0 : Int) ≤ (k : Int) := by omega
          have hmax : ¬ ((k : Int) < 0) := by omega
          gi_wp2
          gi_region_with_o (refine ⟨trivial, ?_⟩; gi_at_call 124; refine (CallsIn.inRound l (callsIn_wide.2 (blast_any O g n cap _ HN.out (by omega) (by first | exact HD.out | exact fun j hj => by simpa using HD.out j hj)))).mono ?_; rintro e w' ⟨rfl, rfl⟩; rw [hz])
          all_goals gi_wp2
          all_goals
            refine ⟨(((KeepsOthers.setCell _ _ _).trans (KeepsOthers.setCell _ _ _)).trans (KeepsOthers.drew _)).from _, HC.out.keeps HCut.out.drew, ⟨g, cap, ?_⟩, (hB2.setCell (p := ⟨w1.heap.size, 0, none⟩) (by show w.heap.size ≤ w1.heap.size; omega) _).drew⟩
            rw [HE.out, HO.out, HL.out]
            exact HCut.out.drew
        · subst hk0
          gi_wp2
          gi_region_with_o (refine ⟨trivial, ?_⟩; gi_at_call 124; refine (CallsIn.inRound l (callsIn_wide.2 (blast_any O g n cap _ HN.out (by omega) (by first | exact HD.out | exact fun j hj => by simpa using HD.out j hj)))).mono ?_; rintro e w' ⟨rfl, rfl⟩; rw [hz])
          all_goals gi_wp2
          all_goals
            refine ⟨(((KeepsOthers.setCell _ _ _).trans (KeepsOthers.setCell _ _ _)).trans (KeepsOthers.drew _)).from _, HC.out.keeps HCut.out.drew, ⟨g, cap, ?_⟩, (hB2.setCell (p := ⟨w1.heap.size, 0, none⟩) (by show w.heap.size ≤ w1.heap.size; omega) _).drew⟩
            rw [HE.out, HO.out, HL.out]
            exact HCut.out.drew
      · have q2 : (x.toList == [46, 46]) = false := by rw [ByteArray.toList_eq]; exact beq_eq_false_iff_ne.2 hd2
        have HO : Hid (outL (vals pre ++ [x]) = outL (vals pre) ++ [47] ++ x.data.toList) := by
          show _ = _
          rw [outL_snoc, cleanStep, if_neg hd1, if_neg hd2, flat_snoc]
          simp
          rfl
        have hlen : (outL (vals pre)).length ≤ 4001 * 4001 := by
          have h1 := outL_len (vals pre) (fun p hp => by
            obtain ⟨y, _, rfl⟩ := List.mem_map.1 hp
            exact y.2.1)
          rw [vals_length] at h1
          have h2 := parts_length 47 b
          have h3 : pre.length ≤ 4001 := by omega
          have h4 : pre.length * 4001 ≤ 4001 * 4001 := Nat.mul_le_mul_right _ h3
          omega
        have hwz : w.heap.size ≤ W.heap.size := hB.size
        generalize outL (vals pre) = O at HC HC2 HO hlen hco hfo
        obtain ⟨n, hn⟩ : ∃ n, O.length = n := ⟨_, rfl⟩
        have hrow := HC2.out.row
        rw [hn] at hco hrow hlen
        have HR : Hid ((W.setCell ⟨w1.heap.size + 1, 0, none⟩ (.string x)).ownsRow w.heap.size 5 1 (.slice (some ⟨g, 0, none⟩) n cap) n (cellsB O)) := hrow
        have HN : Hid (O.length = n) := hn
        clear hrow hd1 hd2 hn
        gi_wp2_with (first
          | (gi_at_builtin; refine wpListIn_append_b _ rfl (.tmp 16) (.tmp 17) 83 rfl w.heap.size 5 i0 Tryz.underlying83 hi0 hz0 hz1 hz2 g n cap (cellsB O) rfl (HR.out.alloc _) ⟨W.heap.size, 0, none⟩ 1 (.int .u8 47) rfl (cell_one_at _ _ _ _ (setCell_size _ _ _)) rfl (by omega) (by rw [World.size_alloc, setCell_size]; omega) ?_; intro g1 cap1 w2 hown2 hgrow2 hlies2; obtain ⟨hC3, hk3, hbw3, hce3, hfr3⟩ := HC2.out.byte (by omega) (by omega) (by omega) n HN.out 47 _ hown2 hgrow2 hlies2; have HC3 : Hid (CI w.heap.size w1.heap.size (w1.heap.size + 1) (w1.heap.size + 1 + 1 + 1) g1 cap1 (O ++ [47]) x (w2.setCell ⟨w1.heap.size, 0, none⟩ (.slice (some ⟨g1, 0, none⟩) (n + 1) cap1))) := hC3; have hz3 : w.heap.size ≤ w2.heap.size := size_of hgrow2 hwz; clear hown2 hgrow2 hlies2 hC3)
          | (gi_at_builtin; refine wpListIn_append_s _ rfl (.tmp 19) (.tmp 20) 83 9 rfl w.heap.size 5 i0 Tryz.underlying83 Tryz.underlying9 hi0 hz0 hz1 hz2 g1 (n + 1) cap1 (cellsB (O ++ [47])) rfl (HC3.out.row_at (n + 1) (by rw [List.length_append, HN.out]; rfl)) x rfl (by omega) (by omega) (by rw [setCell_size]; omega) ?_; intro g3 cap3 w3 hown3 hgrow3 hlies3; obtain ⟨hC4, hk4, hbw4, hce4, hfr4⟩ := HC3.out.text (by omega) (by omega) (by omega) (n + 1) (by rw [List.length_append, HN.out]; rfl) (by omega) x hown3 hgrow3 hlies3; have HC4 : Hid (CI w.heap.size w1.heap.size (w1.heap.size + 1) (w1.heap.size + 1 + 1 + 1) g3 cap3 (O ++ [47] ++ x.data.toList) x (w3.setCell ⟨w1.heap.size, 0, none⟩ (.slice (some ⟨g3, 0, none⟩) (n + 1 + x.size) cap3))) := hC4; clear hown3 hgrow3 hlies3 hC4))
        refine ⟨(((KeepsOthers.setCell _ _ _).trans hk3).trans hk4).from _, HC.out.keeps HC4.out, ⟨g3, cap3, ?_⟩, ((hB2.alloc hB2.size _).trans hbw3).trans hbw4⟩
        rw [HE.out, HO.out, HL.out]
        exact HC4
  case done =>
    rintro D ys W hD hys ⟨⟨g, cap, hC⟩, hB⟩ hK
    have hfin : bs (cleanL s.data.toList) = bs (outL (vals ys) ++ (if dots (lastP (vals ys)).data.toList then [47] else [])) := by
      rw [hys, ← outL_done, ← HB.out, bs_data]
      rfl
    have hlen : (outL (vals ys)).length ≤ 4001 * 4001 := by
      have h1 := outL_len (vals ys) (fun p hp => by
        obtain ⟨y, _, rfl⟩ := List.mem_map.1 hp
        exact y.2.1)
      rw [hys] at h1
      have h2 := parts_length 47 b
      have h3 : (partsOf 47 b).length ≤ 4001 := by omega
      have h4 : (partsOf 47 b).length * 4001 ≤ 4001 * 4001 := Nat.mul_le_mul_right _ h3
      rw [hys]
      omega
    clear hys
    generalize lastP (vals ys) = la at hC hfin
    generalize outL (vals ys) = O at hC hfin hlen
    obtain ⟨n, hn⟩ : ∃ n, O.length = n := ⟨_, rfl⟩
    have hcl := hC.las.cell
    have hco := hC.cell_at n hn
    have hfo := hC.box.frozen
    have HC : Hid (CI w.heap.size w1.heap.size (w1.heap.size + 1) (w1.heap.size + 1 + 1 + 1) g cap O la W) := hC
    have HN : Hid (O.length = n) := hn
    rw [hn] at hlen
    have hwz : w.heap.size ≤ W.heap.size := hB.size
    by_cases hd : dots la.data.toList = true
    · have HF : Hid (bs (cleanL s.data.toList) = bs (O ++ [47])) := by show _ = _; rw [hfin, if_pos hd]
      have HR : Hid (W.ownsRow w.heap.size 5 1 (.slice (some ⟨g, 0, none⟩) n cap) n (cellsB O)) := hC.row_at n hn
      have hq : (la.toList == [46]) = true ∨ ((la.toList == [46]) = false ∧ (la.toList == [46, 46]) = true) := by
        rw [ByteArray.toList_eq]
        unfold dots at hd
        rcases of_decide_eq_true hd with h | h
        · rw [h]; exact .inl rfl
        · rw [h]; exact .inr ⟨rfl, rfl⟩
      clear hfin hC hn hd
      rcases hq with q1 | ⟨q1, q2⟩
      all_goals
        gi_wp2_with (gi_at_builtin; refine wpListIn_append_b _ rfl (.tmp 37) (.tmp 38) 83 rfl w.heap.size 5 i0 Tryz.underlying83 hi0 hz0 hz1 hz2 g n cap (cellsB O) rfl (HR.out.alloc _) ⟨W.heap.size, 0, none⟩ 1 (.int .u8 47) rfl (cell_one_new _ _ _) rfl (by omega) (by rw [World.size_alloc]; omega) ?_; intro g1 cap1 w2 hown2 hgrow2 hlies2; obtain ⟨hC3, hk3, hbw3, hce3, hfr3⟩ := HC.out.byte (by omega) (by omega) (by omega) n HN.out 47 _ hown2 hgrow2 hlies2; have hback := Own.back (show Own (w2.setCell ⟨w1.heap.size, 0, none⟩ (.slice (some ⟨g1, 0, none⟩) (n + 1) cap1)) w.heap.size (.slice (some ⟨g1, 0, none⟩) (n + 1) cap1) (O ++ [47]) from (show (n + 1) = (O ++ [47]).length by rw [List.length_append, HN.out]; rfl) ▸ hC3.row) (by rw [List.length_append, HN.out]; rfl); clear hown2 hgrow2 hlies2 hC3)
        have hK' := hk3.same D _ hK rfl
        refine ⟨by simp, .inl ⟨_, _, rfl, run_takeDeferred hK', ?_⟩⟩
        exact ⟨_, results_tmp rfl _ _ _, by rw [HF.out]; rfl, ((hB.alloc hB.size _).trans hbw3).trans (belowK_b (w := w) (Nat.le_refl _) _ D _ _ (by simp at hD; omega) hK' rfl rfl)⟩
    · have HF : Hid (bs (cleanL s.data.toList) = bs O) := by show _ = _; rw [hfin, if_neg hd, List.append_nil]
      have hq : (la.toList == [46]) = false ∧ (la.toList == [46, 46]) = false := by
        rw [ByteArray.toList_eq]
        unfold dots at hd
        have := of_decide_eq_false (Bool.eq_false_iff.2 hd)
        exact ⟨beq_eq_false_iff_ne.2 (fun e => this (.inl e)), beq_eq_false_iff_ne.2 (fun e => this (.inr e))⟩
      obtain ⟨q1, q2⟩ := hq
      have hback := Own.back (show Own W w.heap.size (.slice (some ⟨g, 0, none⟩) n cap) O from by subst hn; exact hC.row) hn
      clear hfin hC hn hd
      gi_wp2
      refine ⟨by simp, .inl ⟨_, _, rfl, run_takeDeferred hK, ?_⟩⟩
      exact ⟨_, results_tmp rfl _ _ _, by rw [HF.out]; rfl, hB.trans (belowK_b (w := w) (Nat.le_refl _) W D _ _ (by simp at hD; omega) hK rfl rfl)⟩
  case stop =>
    rintro D c pre W _ _ h _
    exact h.elim
end Go.Proofs.YtgajhmmildbkfaaGreatDoor

/- The paths that a challenge tells, by the program. -/
namespace Go.Proofs.YtgajhmmildbkfaaGreatDoor
open Go.RowKit Go.Shelf

theorem slash_pre (l : List UInt8) : Lib.hasPrefix l [47] = slashB l := by
  unfold Lib.hasPrefix
  cases l with
  | nil => rfl
  | cons c t =>
    unfold slashB
    simp [List.isPrefixOf]
    rw [Bool.eq_iff_iff, beq_iff_eq, beq_iff_eq]
    exact eq_comm
theorem slashP_any (p : ByteArray) (w : World) : Calls Tryz.prog 61 #[.string p, .string ⟨#[47]⟩] w fun e w' => e = .returned (.bool (slashB p.data.toList)) ∧ w' = w := by
  rw [← slash_pre]
  exact Any.strings_HasPrefix lays99 p ⟨#[47]⟩ w
def domOf (ps : List ByteArray) : List ByteArray := (ps.filter fun p => slashB p.data.toList).map fun p => bs (cleanL p.data.toList)
theorem domOf_all {ps : List ByteArray} {t : List UInt8} (h : ps.map (·.data.toList) = splitL 32 t) : domOf ps = domL t := by
  unfold domOf domL
  rw [← h, List.filter_map, List.map_map]
  rfl
theorem domOf_yes {ps : List ByteArray} {k : Nat} {p : ByteArray} (h : ps[k]? = some p) (hs : slashB p.data.toList = true) : domOf (ps.take (k + 1)) = domOf (ps.take k) ++ [bs (cleanL p.data.toList)] := by
  obtain ⟨hk, e⟩ := List.getElem?_eq_some_iff.1 h
  unfold domOf
  rw [List.take_succ_eq_append_getElem hk, List.filter_append, List.map_append, e]
  simp [hs]
theorem domOf_no {ps : List ByteArray} {k : Nat} {p : ByteArray} (h : ps[k]? = some p) (hs : slashB p.data.toList = false) : domOf (ps.take (k + 1)) = domOf (ps.take k) := by
  obtain ⟨hk, e⟩ := List.getElem?_eq_some_iff.1 h
  unfold domOf
  rw [List.take_succ_eq_append_getElem hk, List.filter_append, List.map_append, e]
  simp [hs]
theorem domOf_len (ps : List ByteArray) : (domOf ps).length ≤ ps.length := by unfold domOf; rw [List.length_map]; exact List.length_filter_le _ _
set_option maxRecDepth 100000 in
set_option maxHeartbeats 2000000 in
theorem domain_any (c : ChV) (hf : Few c.x.params) (w : World) (hx : ChOk w c) :
    Calls Tryz.prog 68 #[.agg #[.string c.x.scheme, .string c.x.token, .slice c.a c.len c.cap]] w fun e w' => (∃ v, e = .returned v ∧ OwnS w' w.heap.size v (domL ((getL c.x.params kDomain).getD ⟨#[]⟩).data.toList)) ∧ Below w.heap.size w w' := by
  have hb1 : Below w.heap.size w (w.alloc (.cells #[.string c.x.scheme, .string c.x.token, .slice c.a c.len c.cap] 38)) := (Below.refl _ _).alloc (Nat.le_refl _) _
  have hget := get_any c ⟨#[100, 111, 109, 97, 105, 110]⟩ hf (by decide) _ (hx.below hb1)
  have htz : ((getL c.x.params kDomain).getD ⟨#[]⟩).size ≤ 3000 := by
    rcases hg : getL c.x.params kDomain with _ | v
    · decide
    · exact few_get hf hg
  obtain ⟨t, HT⟩ : ∃ t, Hid ((getL c.x.params kDomain).getD ⟨#[]⟩ = t) := ⟨_, rfl⟩
  obtain ⟨is, HI⟩ : ∃ is, Hid ((getL c.x.params kDomain).isSome = is) := ⟨_, rfl⟩
  have hget' : Calls Tryz.prog 13 #[.agg #[.string c.x.scheme, .string c.x.token, .slice c.a c.len c.cap], .string ⟨#[100, 111, 109, 97, 105, 110]⟩] (w.alloc (.cells #[.string c.x.scheme, .string c.x.token, .slice c.a c.len c.cap] 38)) fun e w' => e = .returned (.tuple #[.string t, .bool is]) ∧ Below (w.alloc (.cells #[.string c.x.scheme, .string c.x.token, .slice c.a c.len c.cap] 38)).heap.size (w.alloc (.cells #[.string c.x.scheme, .string c.x.token, .slice c.a c.len c.cap] 38)) w' := by
    rw [← HT.out, ← HI.out]
    exact hget
  rw [HT.out] at htz ⊢
  clear hget hx
  go_enter Tryz.func68, Tryz.ntmps68
  go_wp2_with (go_at_call 13; refine hget'.mono ?_; rintro e w2 ⟨rfl, hb2⟩)
  have HB2 : Hid (Below w.heap.size w w2) := hb1.trans (hb2.mono (by simp))
  clear hget' hb1 hb2
  refine (split_one t 32 (by omega) _).mono ?_
  rintro e w3 ⟨ps, rfl, hpl, hw3, HP⟩
  have hb3 : Below w2.heap.size w2 w3 := by rw [hw3]; exact (Below.refl _ _).alloc (Nat.le_refl _) _
  have HB3 : Hid (Below w.heap.size w w3) := HB2.out.trans (hb3.mono HB2.out.size)
  have hl3 : w2.heap.size < w3.heap.size := by rw [hw3]; simp
  have HC3 : Hid (∀ (j : Nat) (p : ByteArray), ps[j]? = some p → w3.cell? ⟨w2.heap.size, j, none⟩ = some (.string p)) := fun j p hp => by
    rw [hw3]
    refine (World.cell?_alloc_mark _ _ _ _ _).trans ?_
    simp [hp]
  have HPZ : Hid (∀ p ∈ ps, p.size ≤ 3000) := fun p hp => by
    have := part_size 32 t.data.toList p.data.toList (by rw [← HP.out]; exact List.mem_map.2 ⟨p, hp, rfl⟩)
    have e1 : p.data.toList.length = p.size := Array.length_toList
    have e2 : t.data.toList.length = t.size := Array.length_toList
    omega
  clear hb3 hw3
  go_wp2
  go_loopw [5, 16] (fun v i wr => ∃ (k n cap : Nat) (a : Option Addr), k ≤ ps.length ∧ i = .int .i64 k ∧ v = .slice a n cap ∧ n ≤ k ∧ Hid (n = (domOf (ps.take k)).length ∧ OwnS wr w3.heap.size (.slice a n cap) (domOf (ps.take k)) ∧ Below w3.heap.size w3 wr)) (fun _ i _ => ps.length - (intOf i).toNat)
  case atStart => exact ⟨0, 0, 0, none, Nat.zero_le _, rfl, rfl, Nat.le_refl _, ⟨rfl, ownS_nil _ _, Below.refl _ _⟩⟩
  case round =>
    obtain ⟨k, n, cap, a, hk, rfl, rfl, hnk, HR⟩ := hrel
    have hwz : w3.heap.size ≤ wr.heap.size := HR.out.2.2.size
    by_cases hlt : k < ps.length
    · obtain ⟨p, hpk⟩ : ∃ p, ps[k]? = some p := ⟨ps[k], List.getElem?_eq_getElem hlt⟩
      have hcell : wr.cell? ⟨w2.heap.size, k, none⟩ = some (.string p) := (HR.out.2.2.cell (p := ⟨w2.heap.size, k, none⟩) hl3).trans (HC3.out k p hpk)
      have hpz := HPZ.out p (List.mem_of_getElem? hpk)
      cases hsl : slashB p.data.toList
      · have HN : Hid (domOf (ps.take (k + 1)) = domOf (ps.take k)) := domOf_no hpk hsl
        go_wp2_with (go_at_call 61; refine (slashP_any p _).mono ?_; rintro e w4 ⟨rfl, hw4⟩; obtain rfl := hw4.symm; clear hw4; rw [hsl])
        go_roundw
        case rel => exact ⟨k + 1, n, cap, a, by omega, by go_num, rfl, by omega, ⟨by rw [HN.out]; exact HR.out.1, by rw [HN.out]; exact HR.out.2.1, HR.out.2.2⟩⟩
        case measure => simp [intOf]; omega
      · have HN : Hid (domOf (ps.take (k + 1)) = domOf (ps.take k) ++ [bs (cleanL p.data.toList)]) := domOf_yes hpk hsl
        obtain ⟨q, HQ⟩ : ∃ q, Hid (bs (cleanL p.data.toList) = q) := ⟨_, rfl⟩
        rw [HQ.out] at HN
        have hcl : ∀ w, Calls Tryz.prog 99 #[.string p] w fun e w' => e = .returned (.string q) ∧ Below w.heap.size w w' := fun w => by rw [← HQ.out]; exact clean_any p (by omega) w
        go_wp2_with (go_at_call 61; refine (slashP_any p _).mono ?_; rintro e w4 ⟨rfl, hw4⟩; obtain rfl := hw4.symm; clear hw4; rw [hsl])
        refine (hcl _).mono ?_
        rintro e w5 ⟨rfl, hb5⟩
        have HR5 : Hid (OwnS w5 w3.heap.size (.slice a n cap) (domOf (ps.take k)) ∧ Below w3.heap.size w3 w5) := ⟨HR.out.2.1.below hb5, HR.out.2.2.trans (hb5.mono hwz)⟩
        have hz5 : w3.heap.size ≤ w5.heap.size := HR5.out.2.size
        clear hb5
        go_wp2_with (at_builtin; refine wp_apps rfl _ _ rfl w3.heap.size w5 (.slice a n cap) (domOf (ps.take k)) n rfl HR5.out.1 HR.out.1.symm (by omega) hz5 q rfl ?_; intro g6 cap6 w6 hown6 hg6 hlt6; have HR6 : Hid (OwnS w6 w3.heap.size (.slice (some ⟨g6, 0, none⟩) (n + 1) cap6) (domOf (ps.take k) ++ [q]) ∧ Below w3.heap.size w3 w6) := ⟨hown6, (HR5.out.2.alloc hz5 _).grown hg6 (by simp; omega) (fun i hi => (HR5.out.1.lt _ hi).1)⟩; clear hown6 hg6 hlt6)
        go_roundw
        case rel => exact ⟨k + 1, n + 1, cap6, some ⟨g6, 0, none⟩, by omega, by go_num, rfl, by omega, ⟨by rw [HN.out, List.length_append, ← HR.out.1]; rfl, by rw [HN.out]; exact HR6.out.1, HR6.out.2⟩⟩
        case measure => simp [intOf]; omega
    · have HE : Hid (domOf (ps.take k) = domL t.data.toList) := by
        show _ = _
        rw [List.take_of_length_le (by omega)]
        exact domOf_all HP.out
      go_wp2
      go_ret
      exact ⟨⟨_, rfl, by rw [← HE.out]; exact World.ownsRow.mono HR.out.2.1 HB3.out.size⟩, HB3.out.trans (HR.out.2.2.mono HB3.out.size)⟩
end Go.Proofs.YtgajhmmildbkfaaGreatDoor
