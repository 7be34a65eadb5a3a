/- Texts of one claim, joined: each begins with what it proves. -/
import Derived.Test.YthoblggjhdnlpaaGreatDoorJo5
import Derived.Test.YthoblggjhdnlpaaGreatDoorJo1
import Derived.Test.YthoblggjhdnlpaaGreatDoorJo2
import Derived.Test.YthoblggjhdnlpaaGreatDoorJo3
import Derived.Test.YthoblggjhdnlpaaGreatDoorJo4
import Derived.Deep.LoopGhost
import Derived.Deep.Cut
import Derived.Deep.CutRange
import Derived.Deep.DeepCutAuto
import Derived.Shelf.Strings.Builder1
import Derived.Shelf.Strings.BuilderK
import Derived.Lib.BufferKept
import Derived.Deep.Onto
import Derived.Deep.QuietTactic
import Derived.BigQuiet
import Derived.Lib.LaidU8
import Derived.Shelf.LaysM
import Derived.Shelf.Strconv.Itoa3
import Derived.Lib.AppendIntMem
import Derived.Lib.SmallJoins
/- A cursor's blanks, words and marks, by the program. -/
namespace Go.Proofs.YthoblggjhdnlpaaGreatDoor
open Go.RowKit

theorem ne_zero_list (t : ByteArray) (n : Nat) (h : t.size = n) : (!t.toList.isEmpty) = decide (0 < n) := by
  subst h
  rw [ByteArray.toList_eq]
  by_cases h0 : t.size = 0
  · have e : t.data.toList = [] := List.eq_nil_of_length_eq_zero (by rw [len_data]; exact h0)
    rw [e, decide_eq_false (by omega)]
    rfl
  · have e : t.data.toList ≠ [] := by
      intro e
      have := len_data t
      rw [e] at this
      exact h0 this.symm
    rw [decide_eq_true (by omega)]
    cases e2 : t.data.toList with
    | nil => exact absurd e2 e
    | cons x r => rfl
set_option maxHeartbeats 1000000 in
theorem blanks_any (b : Nat) (s : ByteArray) (hs : s.size ≤ 20000) (k : Nat) (w : World) (hc : Cur w b s k) :
    Calls Tryz.prog 64 #[.pointer (some ⟨b, 0, none⟩)] w fun e w' => e = .returned (.bool (decide (0 < runL blankB (s.data.toList.drop k)))) ∧ Cur w' b s (k + runL blankB (s.data.toList.drop k)) ∧ w.grownBy w' (some b) := by
  go_enter Tryz.func64, Tryz.ntmps64
  go_wp2_with (go_at_call 88; refine (over_any _ _ kind_blank b s (by omega) k _ hc).mono ?_; rintro e w' ⟨t, rfl, ht, HT, hc2, hg⟩)
  go_ret
  exact ⟨ret_bool (ne_zero_list t _ ht), hc2, hg⟩
set_option maxHeartbeats 1000000 in
theorem word_any (b : Nat) (s : ByteArray) (hs : s.size ≤ 20000) (k : Nat) (w : World) (hc : Cur w b s k) :
    Calls Tryz.prog 65 #[.pointer (some ⟨b, 0, none⟩)] w fun e w' => ∃ t : ByteArray, e = .returned (.string t) ∧ t.size = runL tokB (s.data.toList.drop k) ∧ Hid (t.data.toList = (s.data.toList.drop k).takeWhile tokB) ∧ Cur w' b s (k + runL tokB (s.data.toList.drop k)) ∧ w.grownBy w' (some b) := by
  have hle := run_rest_le tokB s k hc.le
  obtain ⟨n, HN⟩ : ∃ n : Nat, Hid (runL tokB (s.data.toList.drop k) = n) := ⟨_, rfl⟩
  rw [HN.out] at hle
  go_enter Tryz.func65, Tryz.ntmps65
  go_wp2_with (first | (go_at_call 88; refine (over_any _ _ kind_byte b s (by omega) k _ hc).mono ?_; rintro e w1 ⟨t, rfl, ht, HT, hc2, hg⟩; have htz : t.size ≤ 20000 := by rw [ht, HN.out]; omega) | (go_at_call 31; refine (clone_any _ htz _).mono ?_; rintro e w2 ⟨rfl, hb2⟩))
  go_ret
  exact ⟨t, rfl, ht, HT, hc2.below hb2, grown_trans hg (grown_below hb2 _)⟩
set_option maxHeartbeats 1000000 in
theorem mark_end (b : Nat) (s : ByteArray) (c : UInt8) (w : World) (hc : Cur w b s s.size) :
    Calls Tryz.prog 67 #[.pointer (some ⟨b, 0, none⟩), .int .u8 (c.toNat : Int)] w fun e w' => e = .returned (.bool false) ∧ ∃ n, w' = w.drewN n := by
  have HC : Hid (Cur w b s s.size) := hc
  have hend : ∀ n, Calls Tryz.prog 66 #[.pointer (some ⟨b, 0, none⟩)] (w.drewN n) fun e w' => e = .returned (.bool true) ∧ ∃ m, w' = (w.drewN n).drewN m := fun n => by
    refine (end_any b s s.size _ (HC.out.drewN n)).mono ?_
    rintro e w' ⟨rfl, h⟩
    exact ⟨ret_bool (by simp), h⟩
  clear hc
  go_enter Tryz.func67, Tryz.ntmps67
  go_wp2
  go_quiet ((go_at_call 66; exact Calls.quiet_of (hend _)))
  go_wp2
  go_ret
  exact ⟨rfl, _, rfl⟩
set_option maxHeartbeats 1000000 in
theorem mark_other (b : Nat) (s : ByteArray) (k : Nat) (hk : k < s.size) (c : UInt8) (hne : s[k] ≠ c) (w : World) (hc : Cur w b s k) :
    Calls Tryz.prog 67 #[.pointer (some ⟨b, 0, none⟩), .int .u8 (c.toNat : Int)] w fun e w' => e = .returned (.bool false) ∧ ∃ n, w' = w.drewN n := by
  have HC : Hid (Cur w b s k) := hc
  have hend : ∀ n, Calls Tryz.prog 66 #[.pointer (some ⟨b, 0, none⟩)] (w.drewN n) fun e w' => e = .returned (.bool false) ∧ ∃ m, w' = (w.drewN n).drewN m := fun n => by
    refine (end_any b s k _ (HC.out.drewN n)).mono ?_
    rintro e w' ⟨rfl, h⟩
    exact ⟨ret_bool (beq_eq_false_iff_ne.2 (by omega)), h⟩
  obtain ⟨d, hd⟩ : ∃ d : UInt8, s[k] = d := ⟨_, rfl⟩
  have hq : ((d.toNat : Int) != (c.toNat : Int)) = true := by
    rw [bne_iff_ne]
    intro e
    apply hne
    rw [hd]
    exact UInt8.toNat_inj.1 (by omega)
  obtain ⟨h1, h2, h3, h4⟩ := hc
  clear hne
  have hkS : (k : Int) < (s.size : Int) := by omega
  go_enter Tryz.func67, Tryz.ntmps67
  go_wp2
  go_quiet ((go_at_call 66; exact Calls.quiet_of (hend _)))
  go_wp2
  go_ret
  exact ⟨rfl, _, rfl⟩
set_option maxHeartbeats 1000000 in
theorem mark_yes (b : Nat) (s : ByteArray) (hs : s.size ≤ 20000) (k : Nat) (hk : k < s.size) (c : UInt8) (he : s[k] = c) (w : World) (hc : Cur w b s k) :
    Calls Tryz.prog 67 #[.pointer (some ⟨b, 0, none⟩), .int .u8 (c.toNat : Int)] w fun e w' => e = .returned (.bool true) ∧ Cur w' b s (k + 1) ∧ w.grownBy w' (some b) := by
  have HC : Hid (Cur w b s k) := hc
  have hend : ∀ n, Calls Tryz.prog 66 #[.pointer (some ⟨b, 0, none⟩)] (w.drewN n) fun e w' => e = .returned (.bool false) ∧ ∃ m, w' = (w.drewN n).drewN m := fun n => by
    refine (end_any b s k _ (HC.out.drewN n)).mono ?_
    rintro e w' ⟨rfl, h⟩
    exact ⟨ret_bool (beq_eq_false_iff_ne.2 (by omega)), h⟩
  have hq : ((c.toNat : Int) != (c.toNat : Int)) = false := by simp
  obtain ⟨h1, h2, h3, h4⟩ := hc
  have hkS : (k : Int) < (s.size : Int) := by omega
  go_enter Tryz.func67, Tryz.ntmps67
  go_wp2
  go_quiet ((go_at_call 66; exact Calls.quiet_of (hend _)))
  go_wp2
  go_ret
  exact ⟨rfl, (HC.out.drewN _).set _ (by omega) _ (by push_cast; rfl), grown_trans (grown_drewN w _ _) (grown_set _ _ _ _)⟩
/-- The place that a number stands for. -/
def clampK (n : Nat) (m : Int) : Nat := (max 0 (min m (n : Int))).toNat
theorem clampK_le (n : Nat) (m : Int) : clampK n m ≤ n := by unfold clampK; omega
end Go.Proofs.YthoblggjhdnlpaaGreatDoor

/- A world that has drawn an order is the same. -/
namespace Go.Proofs.YthoblggjhdnlpaaGreatDoor
open Go.RowKit

theorem drewN_at {B : Nat} {a w : World} (h : Below B a w) (n : Nat) : Below B a (w.drewN n) := h.trans ⟨rfl, rfl, rfl, Nat.le_refl _, fun _ _ => rfl⟩
end Go.Proofs.YthoblggjhdnlpaaGreatDoor

/- The words of a list, by the program. -/
namespace Go.Proofs.YthoblggjhdnlpaaGreatDoor
open Go.RowKit

/-- What is known of the whole list behind k bytes. -/
def ListAt (l : List UInt8) (ws : List (List UInt8)) (k : Nat) : Prop := listP 0 (splitL 44 l) = (listP k (splitL 44 (l.drop k))).map (ws ++ ·)
theorem drop_drop' (l : List UInt8) (a b : Nat) : (l.drop a).drop b = l.drop (a + b) := by rw [List.drop_drop]
theorem consW_nil (w : List UInt8) : consW w [] = if w = [] then [] else [w] := rfl
theorem consW_app (ws : List (List UInt8)) (w : List UInt8) (r : List (List UInt8)) : ws ++ consW w r = (ws ++ consW w []) ++ r := by
  unfold consW
  split <;> simp
theorem map_map_ex (x : Except Nat (List (List UInt8))) (f g : List (List UInt8) → List (List UInt8)) : (x.map f).map g = x.map fun y => g (f y) := by cases x <;> rfl
theorem listAt_end {l : List UInt8} {ws : List (List UInt8)} {k : Nat} (h : ListAt l ws k) (hr : restP (l.drop k) = []) : listP 0 (splitL 44 l) = .ok (ws ++ consW (wordP (l.drop k)) []) := by
  unfold ListAt at h
  rw [h, list_end _ _ hr]
  rfl
theorem listAt_more {l t : List UInt8} {ws : List (List UInt8)} {k : Nat} (h : ListAt l ws k) (hr : restP (l.drop k) = 44 :: t) (m : Nat) (hm : l.drop m = t) (hk : m = k + ((l.drop k).length - t.length)) : ListAt l (ws ++ consW (wordP (l.drop k)) []) m := by
  unfold ListAt at *
  rw [h, list_more _ _ _ hr, map_map_ex, hm, hk]
  congr 1
  funext y
  rw [consW_app]
theorem listAt_bad {l t : List UInt8} {c : UInt8} {ws : List (List UInt8)} {k : Nat} (h : ListAt l ws k) (hr : restP (l.drop k) = c :: t) (hc : c ≠ 44) : listP 0 (splitL 44 l) = .error (k + ((l.drop k).length - (restP (l.drop k)).length)) := by
  unfold ListAt at h
  rw [h, list_bad _ _ _ _ hr hc]
  rfl
/-- Where the word, and what stands behind it, begin. -/
theorem rest_at (l : List UInt8) (k : Nat) :
    wordP (l.drop k) = (l.drop (k + runL blankB (l.drop k))).takeWhile tokB ∧
    restP (l.drop k) = l.drop (k + runL blankB (l.drop k) + runL tokB (l.drop (k + runL blankB (l.drop k))) + runL blankB (l.drop (k + runL blankB (l.drop k) + runL tokB (l.drop (k + runL blankB (l.drop k)))))) := by
  have e1 : (l.drop k).dropWhile blankB = l.drop (k + runL blankB (l.drop k)) := by rw [← drop_runL, drop_drop']
  have e2 : (l.drop (k + runL blankB (l.drop k))).dropWhile tokB = l.drop (k + runL blankB (l.drop k) + runL tokB (l.drop (k + runL blankB (l.drop k)))) := by rw [← drop_runL, drop_drop']
  refine ⟨?_, ?_⟩
  · unfold wordP
    rw [e1]
  · unfold restP
    rw [e1, e2, ← drop_runL, drop_drop']
def texts (xs : List ByteArray) : List (List UInt8) := xs.map (·.data.toList)
theorem texts_snoc (xs : List ByteArray) (t : ByteArray) (w : List UInt8) (ht : t.data.toList = w) (h : t.size ≠ 0) : texts (xs ++ [t]) = texts xs ++ consW w [] := by
  have hw : w ≠ [] := by
    rw [← ht]
    intro e
    have := len_data t
    rw [e] at this
    exact h this.symm
  unfold texts consW
  rw [List.map_append, List.map_singleton, ht, if_neg hw]
theorem texts_same (xs : List ByteArray) (t : ByteArray) (w : List UInt8) (ht : t.data.toList = w) (h : t.size = 0) : texts xs = texts xs ++ consW w [] := by
  have hw : w = [] := by
    rw [← ht]
    exact List.eq_nil_of_length_eq_zero (by rw [len_data]; exact h)
  unfold consW
  rw [if_pos hw, List.append_nil]
theorem empty_at {s : ByteArray} (h : s.size = 0) : s = ⟨#[]⟩ := by
  apply ByteArray.ext
  exact Array.eq_empty_of_size_eq_zero h
theorem not_empty_at {s : ByteArray} (h : s.size ≠ 0) : s.toList.isEmpty = false := by
  rw [ByteArray.toList_eq]
  cases e : s.data.toList with
  | nil =>
    have := len_data s
    rw [e] at this
    exact absurd this.symm h
  | cons x r => rfl
theorem cells_at (W : World) (cs : Array Value) (t : TypeId) (j : Nat) : (W.alloc (.cells cs t)).cell? ⟨W.heap.size, j, none⟩ = cs[j]? := World.cell?_alloc_mark _ _ _ _ _
/-- What List answers. -/
def LstAns (s : ByteArray) (B : Nat) (e : Ending) (w' : World) : Prop :=
  (∃ (xs : List ByteArray) (v : Value), listP 0 (splitL 44 s.data.toList) = .ok (texts xs) ∧ xs.length ≤ 40 ∧ e = .returned (.tuple #[v, .nilIface]) ∧ OwnS w' B v xs) ∨
  (∃ xs : List ByteArray, listP 0 (splitL 44 s.data.toList) = .ok (texts xs) ∧ 40 < xs.length ∧ e = .returned (.tuple #[.slice none 0 0, .iface 54 (.int .i64 4)])) ∨
  (∃ p g : Nat, listP 0 (splitL 44 s.data.toList) = .error p ∧ e = .returned (.tuple #[.slice none 0 0, .iface 70 (.pointer (some ⟨g, 0, none⟩))]) ∧ w'.cell? ⟨g, 0, none⟩ = some (.int .i64 3) ∧ w'.cell? ⟨g, 1, none⟩ = some (.int .i64 (p : Int)) ∧ B ≤ g)
set_option maxRecDepth 100000 in
set_option maxHeartbeats 4000000 in
theorem list_any (s : ByteArray) (hs : s.size ≤ 20000) (w : World) :
    Calls Tryz.prog 34 #[.string s] w fun e w' => LstAns s (w.heap.size + 1) e w' ∧ Below w.heap.size w w' := by
  go_enter Tryz.func34, Tryz.ntmps34
  go_wp2_with (go_at_call 63; refine (on_any s _).mono ?_; rintro e w1 ⟨rfl, hc1, hb1, hz1⟩)
  have HC1 : Hid (Cur w1 w.heap.size s 0) := hc1
  clear hc1
  go_loopg [4] s.size (fun gh v wr => ∃ (k n cap : Nat) (a : Option Addr) (xs : List ByteArray), s.size - k = gh ∧ k ≤ s.size ∧ n ≤ 41 ∧ v = .slice a n cap ∧ Hid (OwnS wr (w.heap.size + 1) (.slice a n cap) (xs.take 41) ∧ (xs.take 41).length = n ∧ ListAt s.data.toList (texts xs) k ∧ Cur wr w.heap.size s k) ∧ Below w.heap.size w wr ∧ w.heap.size < wr.heap.size)
  case atStart => exact ⟨0, 0, 0, none, [], by omega, Nat.zero_le _, by omega, rfl, ⟨ownS_nil _ _, rfl, by unfold ListAt; rw [List.drop_zero]; cases listP 0 (splitL 44 s.data.toList) <;> rfl, HC1⟩, hb1, hz1⟩
  case round =>
    obtain ⟨k, n, cap, a, xs, hgk, hk, hn, rfl, HO, hb, hz⟩ := hrel
    obtain ⟨eW, eR⟩ := rest_at s.data.toList k
    obtain ⟨k1, HK1⟩ : ∃ k1, Hid (k + runL blankB (s.data.toList.drop k) = k1) := ⟨_, rfl⟩
    rw [HK1.out] at eW eR
    obtain ⟨k2, HK2⟩ : ∃ k2, Hid (k1 + runL tokB (s.data.toList.drop k1) = k2) := ⟨_, rfl⟩
    rw [HK2.out] at eR
    obtain ⟨k3, HK3⟩ : ∃ k3, Hid (k2 + runL blankB (s.data.toList.drop k2) = k3) := ⟨_, rfl⟩
    rw [HK3.out] at eR
    have EW : Hid (wordP (s.data.toList.drop k) = (s.data.toList.drop k1).takeWhile tokB) := eW
    have ER : Hid (restP (s.data.toList.drop k) = s.data.toList.drop k3) := eR
    have hk1 : k1 ≤ s.size := by rw [← HK1.out]; exact run_rest_le _ s k hk
    have hk2 : k2 ≤ s.size := by rw [← HK2.out]; exact run_rest_le _ s k1 hk1
    have hk3 : k3 ≤ s.size := by rw [← HK3.out]; exact run_rest_le _ s k2 hk2
    have hkk : k ≤ k1 ∧ k1 ≤ k2 ∧ k2 ≤ k3 := ⟨by rw [← HK1.out]; omega, by rw [← HK2.out]; omega, by rw [← HK3.out]; omega⟩
    have HGK : Hid (s.size - k = gk) := hgk
    have HKK : Hid (k ≤ k1 ∧ k1 ≤ k2 ∧ k2 ≤ k3) := hkk
    clear eW eR hgk hkk HC1 hb1 hz1
    go_wp2_with fail
    refine (blanks_any w.heap.size s (by omega) k _ HO.out.2.2.2).mono ?_
    rintro e w2 ⟨rfl, hc2, hg2⟩
    rw [HK1.out] at hc2
    have HC2 : Hid (Cur w2 w.heap.size s k1 ∧ OwnS w2 (w.heap.size + 1) (.slice a n cap) (xs.take 41)) := ⟨hc2, HO.out.1.grown hg2 (by omega)⟩
    have hb2 : Below w.heap.size w w2 := hb.grown hg2 (by omega) (fun i hi => by injection hi with hi; omega)
    have hz2 : w.heap.size < w2.heap.size := Nat.lt_of_lt_of_le hz hg2.size
    clear hc2 hg2
    go_wp2_with fail
    refine (word_any w.heap.size s hs k1 _ HC2.out.1).mono ?_
    rintro e w3 ⟨t, rfl, ht, HT, hc3, hg3⟩
    rw [HK2.out] at hc3
    have HC3 : Hid (Cur w3 w.heap.size s k2 ∧ OwnS w3 (w.heap.size + 1) (.slice a n cap) (xs.take 41)) := ⟨hc3, HC2.out.2.grown hg3 (by omega)⟩
    have hb3 : Below w.heap.size w w3 := hb2.grown hg3 (by omega) (fun i hi => by injection hi with hi; omega)
    have hz3 : w.heap.size < w3.heap.size := Nat.lt_of_lt_of_le hz2 hg3.size
    have HTW : Hid (t.data.toList = wordP (s.data.toList.drop k)) := by show _ = _; rw [HT.out, EW.out]
    clear hc3 hg3 ht hb hz hb2 hz2
    obtain ⟨q, HQ⟩ : ∃ q : Bool, Hid (decide (t.size ≠ 0 ∧ n ≤ 40) = q) := ⟨_, rfl⟩
    go_upto_region 5 with fail
    go_cut [19] (fun v wc => v = .bool q ∧ wc = w3)
    case first =>
      by_cases ht0 : t.size = 0
      · have hq : q = false := by rw [← HQ.out]; exact decide_eq_false (fun h => h.1 ht0)
        obtain rfl := empty_at ht0
        subst hq
        go_wp2
        go_meet
        exact ⟨rfl, rfl⟩
      · have hne : t.toList.isEmpty = false := not_empty_at ht0
        by_cases h40 : n ≤ 40
        · have h40' : (n : Int) ≤ 40 := by omega
          have hq : q = true := by rw [← HQ.out]; exact decide_eq_true ⟨ht0, h40⟩
          subst hq
          go_wp2
          go_meet
          exact ⟨rfl, rfl⟩
        · have h40' : ¬ (n : Int) ≤ 40 := by omega
          have hq : q = false := by rw [← HQ.out]; exact decide_eq_false (fun h => h40 h.2)
          subst hq
          go_wp2
          go_meet
          exact ⟨rfl, rfl⟩
    case rest =>
    obtain ⟨rfl, hw3⟩ := hcut
    obtain rfl := hw3.symm
    clear hw3
    go_upto_if 19 with fail
    go_cut [4] (fun v wc => ∃ (n' cap' : Nat) (a' : Option Addr) (ys : List ByteArray), n' ≤ 41 ∧ v = .slice a' n' cap' ∧ Hid (OwnS wc (w.heap.size + 1) (.slice a' n' cap') (ys.take 41) ∧ (ys.take 41).length = n' ∧ texts ys = texts xs ++ consW (wordP (s.data.toList.drop k)) [] ∧ Cur wc w.heap.size s k2) ∧ Below w.heap.size w wc ∧ w.heap.size < wc.heap.size)
    case first =>
      cases q
      · have hor : t.size = 0 ∨ 40 < n := by
          have := of_decide_eq_false HQ.out
          omega
        by_cases ht0 : t.size = 0
        · have HX : Hid (texts xs = texts xs ++ consW (wordP (s.data.toList.drop k)) []) := texts_same xs t _ HTW.out ht0
          go_wp2
          go_meet
          exact ⟨n, cap, a, xs, hn, rfl, ⟨HC3.out.2, HO.out.2.1, HX, HC3.out.1⟩, hb3, hz3⟩
        · have HX : Hid (texts (xs ++ [t]) = texts xs ++ consW (wordP (s.data.toList.drop k)) []) := texts_snoc xs t _ HTW.out ht0
          have HXL2 : Hid ((xs ++ [t]).take 41 = xs.take 41) := by
            show _ = _
            rw [List.take_append_of_le_length]
            have := HO.out.2.1
            rw [List.length_take] at this
            omega
          go_wp2
          go_meet
          exact ⟨n, cap, a, xs ++ [t], hn, rfl, ⟨by rw [HXL2.out]; exact HC3.out.2, by rw [HXL2.out]; exact HO.out.2.1, HX, HC3.out.1⟩, hb3, hz3⟩
      · have hand : t.size ≠ 0 ∧ n ≤ 40 := of_decide_eq_true HQ.out
        obtain ⟨ht0, h40⟩ := hand
        have HX : Hid (texts (xs ++ [t]) = texts xs ++ consW (wordP (s.data.toList.drop k)) []) := texts_snoc xs t _ HTW.out ht0
        have HXL : Hid (xs.take 41 = xs) := List.take_of_length_le (by have := HO.out.2.1; rw [List.length_take] at this; omega)
        have HXL2 : Hid ((xs ++ [t]).take 41 = xs.take 41 ++ [t]) := by
          show _ = _
          rw [HXL.out, List.take_of_length_le]
          have := HO.out.2.1
          rw [HXL.out] at this
          simp
          omega
        go_wp2_with (at_builtin; refine wp_apps rfl _ _ rfl (w.heap.size + 1) w3 (.slice a n cap) (xs.take 41) n rfl HC3.out.2 HO.out.2.1 (by omega) (by omega) t rfl ?_; intro g4 cap4 w4 hown4 hg4 hlt4; have HO4 : Hid (OwnS w4 (w.heap.size + 1) (.slice (some ⟨g4, 0, none⟩) (n + 1) cap4) (xs.take 41 ++ [t]) ∧ Cur w4 w.heap.size s k2) := ⟨hown4, (HC3.out.1.below ((Below.refl _ _).alloc (Nat.le_refl _) _)).grown hg4 (fun e => by have := (HC3.out.2.lt _ e.symm).1; omega)⟩; have hb4 : Below w.heap.size w w4 := (hb3.alloc (by omega) _).grown hg4 (by simp; omega) (fun i hi => by have := (HC3.out.2.lt _ hi).1; omega); have hz4 : w.heap.size < w4.heap.size := (by have := hg4.size; simp at this; omega); clear hown4 hg4 hlt4)
        go_meet
        exact ⟨n + 1, cap4, some ⟨g4, 0, none⟩, xs ++ [t], by omega, rfl, ⟨by rw [HXL2.out]; exact HO4.out.1, by rw [HXL2.out, List.length_append, HO.out.2.1]; rfl, HX, HO4.out.2⟩, hb4, hz4⟩
    case rest =>
      obtain ⟨n', cap', a', ys, hn', rfl, HY, hbc, hzc⟩ := hcut
      go_wp2_with fail
      refine (blanks_any w.heap.size s (by omega) k2 _ HY.out.2.2.2).mono ?_
      rintro e w5 ⟨rfl, hc5, hg5⟩
      rw [HK3.out] at hc5
      have HC5 : Hid (Cur w5 w.heap.size s k3 ∧ OwnS w5 (w.heap.size + 1) (.slice a' n' cap') (ys.take 41)) := ⟨hc5, HY.out.1.grown hg5 (by omega)⟩
      have hb5 : Below w.heap.size w w5 := hbc.grown hg5 (by omega) (fun i hi => by injection hi with hi; omega)
      have hz5 : w.heap.size < w5.heap.size := Nat.lt_of_lt_of_le hzc hg5.size
      clear hc5 hg5 hbc hzc hb3 hz3
      go_wp2_with fail
      refine (end_any w.heap.size s k3 _ HC5.out.1).mono ?_
      rintro e w6 ⟨rfl, nd, rfl⟩
      by_cases hend : k3 = s.size
      · have hE : ((k3 : Int) == (s.size : Int)) = true := by rw [hend]; simp
        rw [hE]
        have HA : Hid (listP 0 (splitL 44 s.data.toList) = .ok (texts ys)) := by
          show _ = _
          rw [HY.out.2.2.1]
          refine listAt_end HO.out.2.2.1 ?_
          rw [ER.out, hend, List.drop_of_length_le (by rw [len_data]; exact Nat.le_refl _)]
        have HL : Hid ((ys.take 41).length = n') := HY.out.2.1
        by_cases hbig : (40 : Int) < (n' : Int)
        · go_wp2
          go_ret2
          refine ⟨.inr (.inl ⟨ys, HA, ?_, rfl⟩), drewN_at hb5 _⟩
          have := HL.out
          rw [List.length_take] at this
          omega
        · have HXL : Hid (ys.take 41 = ys) := List.take_of_length_le (by have := HL.out; rw [List.length_take] at this; omega)
          go_wp2
          go_ret2
          refine ⟨.inl ⟨ys, _, HA, ?_, rfl, ?_⟩, drewN_at hb5 _⟩
          · have := HL.out
            rw [HXL.out] at this
            omega
          · have := HC5.out.2
            rw [HXL.out] at this
            exact this
      · have hE : ((k3 : Int) == (s.size : Int)) = false := beq_eq_false_iff_ne.2 (by omega)
        rw [hE]
        have hlt3 : k3 < s.size := by omega
        obtain ⟨c, hcd⟩ : ∃ c : UInt8, s[k3] = c := ⟨_, rfl⟩
        have HD : Hid (restP (s.data.toList.drop k) = c :: s.data.toList.drop (k3 + 1)) := by
          show _ = _
          rw [ER.out, List.drop_eq_getElem_cons (by rw [len_data]; exact hlt3), ← hcd]
          rfl
        by_cases h44 : c = 44
        · subst h44
          have HA : Hid (ListAt s.data.toList (texts ys) (k3 + 1)) := by
            show ListAt _ _ _
            rw [HY.out.2.2.1]
            refine listAt_more HO.out.2.2.1 HD.out _ rfl ?_
            rw [List.length_drop, List.length_drop, len_data]
            have := HKK.out
            omega
          go_wp2_with fail
          refine (mark_yes w.heap.size s (by omega) k3 hlt3 44 hcd _ (HC5.out.1.drewN nd)).mono ?_
          rintro e w7 ⟨rfl, hc7, hg7⟩
          have HC7 : Hid (Cur w7 w.heap.size s (k3 + 1) ∧ OwnS w7 (w.heap.size + 1) (.slice a' n' cap') (ys.take 41)) := ⟨hc7, OwnS.grown (w := w5.drewN nd) HC5.out.2 hg7 (by omega)⟩
          have hb7 : Below w.heap.size w w7 := (drewN_at hb5 nd).grown hg7 (by show w.heap.size ≤ w5.heap.size; omega) (fun i hi => by injection hi with hi; omega)
          have hz7 : w.heap.size < w7.heap.size := Nat.lt_of_lt_of_le hz5 hg7.size
          clear hc7 hg7
          go_wp2
          go_roundg (s.size - (k3 + 1))
          case measure => have := HKK.out; have := HGK.out; omega
          case rel => exact ⟨k3 + 1, n', cap', a', ys, rfl, by omega, hn', rfl, ⟨HC7.out.2, HY.out.2.1, HA, HC7.out.1⟩, hb7, hz7⟩
        · have HA : Hid (listP 0 (splitL 44 s.data.toList) = .error k3) := by
            show _ = _
            rw [listAt_bad HO.out.2.2.1 HD.out h44, ER.out, List.length_drop, List.length_drop, len_data]
            congr 1
            have := HKK.out
            omega
          go_wp2_with fail
          refine (mark_other w.heap.size s k3 hlt3 44 (by rw [hcd]; exact h44) _ (HC5.out.1.drewN nd)).mono ?_
          rintro e w7 ⟨rfl, ne, rfl⟩
          go_wp2_with fail
          refine (at_any w.heap.size s k3 _ (HC5.out.1.drewN (nd + ne))).mono ?_
          rintro e w8 ⟨rfl, rfl⟩
          go_wp2
          go_ret2
          refine ⟨.inr (.inr ⟨k3, _, HA, rfl, ?_, ?_, ?_⟩), ?_⟩
          · exact cells_at _ _ _ 0
          · exact cells_at _ _ _ 1
          · exact hz5
          · exact (drewN_at hb5 (nd + ne)).alloc (by show w.heap.size ≤ w5.heap.size; omega) _
end Go.Proofs.YthoblggjhdnlpaaGreatDoor

/- The words that a field tells. -/
namespace Go.Proofs.YthoblggjhdnlpaaGreatDoor

/-- The words of a list, if it can be read and holds no more than forty. -/
def wordsO (x : List UInt8) : Option (List ByteArray) := match listP 0 (splitL 44 x) with
  | .ok ws => if ws.length ≤ 40 then some (ws.map bs) else none
  | .error _ => none
theorem texts_bs (xs : List ByteArray) : (texts xs).map bs = xs := by
  unfold texts
  rw [List.map_map]
  conv => rhs; rw [← List.map_id xs]
  apply List.map_congr_left
  intro x _
  exact bs_self x
theorem wordsO_ok {x : List UInt8} {xs : List ByteArray} (h : listP 0 (splitL 44 x) = .ok (texts xs)) (hl : xs.length ≤ 40) : wordsO x = some xs := by
  unfold wordsO
  rw [h]
  show (if (texts xs).length ≤ 40 then _ else _) = _
  rw [if_pos (by unfold texts; simpa using hl), texts_bs]
theorem wordsO_many {x : List UInt8} {xs : List ByteArray} (h : listP 0 (splitL 44 x) = .ok (texts xs)) (hl : 40 < xs.length) : wordsO x = none := by
  unfold wordsO
  rw [h]
  show (if (texts xs).length ≤ 40 then _ else _) = _
  rw [if_neg (by unfold texts; simp; omega)]
theorem wordsO_bad {x : List UInt8} {p : Nat} (h : listP 0 (splitL 44 x) = .error p) : wordsO x = none := by
  unfold wordsO
  rw [h]
theorem listP_lens : ∀ (P : List (List UInt8)) (k : Nat) (ws : List (List UInt8)) (n : Nat), listP k P = .ok ws → (∀ p ∈ P, p.length ≤ n) → ∀ w ∈ ws, w.length ≤ n
  | [], k, ws, n, h, _, w, hw => by
    simp only [listP, Except.ok.injEq] at h
    rw [← h] at hw
    cases hw
  | p :: r, k, ws, n, h, hn, w, hw => by
    rw [listP] at h
    split at h
    · rcases e : listP (k + p.length + 1) r with x | ys
      · rw [e] at h
        cases h
      · rw [e] at h
        have h' : consW (wordP p) ys = ws := by injection h
        rw [← h'] at hw
        have hwp : (wordP p).length ≤ n := by
          have h1 := hn p List.mem_cons_self
          have h2 : (wordP p).length ≤ p.length := by
            unfold wordP
            exact Nat.le_trans (List.Sublist.length_le (List.takeWhile_sublist _)) (List.Sublist.length_le (List.dropWhile_sublist _))
          omega
        have ih := listP_lens r _ ys n e (fun q hq => hn q (List.mem_cons_of_mem _ hq))
        unfold consW at hw
        split at hw
        · exact ih w hw
        · rcases List.mem_cons.1 hw with hw | hw
          · rw [hw]; exact hwp
          · exact ih w hw
    · cases h
theorem wordsO_len {x : List UInt8} {xs : List ByteArray} (h : wordsO x = some xs) : xs.length ≤ 40 ∧ ∀ w ∈ xs, w.size ≤ x.length := by
  unfold wordsO at h
  split at h
  · rename_i ws hws
    split at h
    · rename_i hl
      simp only [Option.some.injEq] at h
      rw [← h]
      refine ⟨by simpa using hl, fun w hw => ?_⟩
      obtain ⟨v, hv, rfl⟩ := List.mem_map.1 hw
      rw [bs_size]
      exact listP_lens _ _ _ _ hws (fun p hp => splitL_lens 44 x p hp) v hv
    · cases h
  · cases h
def mN : List UInt8 := [65, 99, 99, 101, 115, 115, 45, 67, 111, 110, 116, 114, 111, 108, 45, 65, 108, 108, 111, 119, 45, 77, 101, 116, 104, 111, 100, 115]
def hN : List UInt8 := [65, 99, 99, 101, 115, 115, 45, 67, 111, 110, 116, 114, 111, 108, 45, 65, 108, 108, 111, 119, 45, 72, 101, 97, 100, 101, 114, 115]
end Go.Proofs.YthoblggjhdnlpaaGreatDoor

/- Whether an answer may be seen by a request's origin. -/
namespace Go.Proofs.YthoblggjhdnlpaaGreatDoor

def oN : List UInt8 := [65, 99, 99, 101, 115, 115, 45, 67, 111, 110, 116, 114, 111, 108, 45, 65, 108, 108, 111, 119, 45, 79, 114, 105, 103, 105, 110]
def cN : List UInt8 := [65, 99, 99, 101, 115, 115, 45, 67, 111, 110, 116, 114, 111, 108, 45, 65, 108, 108, 111, 119, 45, 67, 114, 101, 100, 101, 110, 116, 105, 97, 108, 115]
/-- An origin's text is t: by what an answer's fields tell. -/
def mayB (wi : Bool) (x t c : ByteArray) : Bool := !wi && x.toList == [42] || (x.toList == t.toList && (!wi || c.toList == [116, 114, 117, 101]))
def mayL (wi : Bool) (t : List UInt8) (ps : List Par) : Bool := mayB wi (bs (fieldT oN ps)) (bs t) (bs (fieldT cN ps))
theorem mayL_is (wi : Bool) (t : List UInt8) (ps : List Par) : mayL wi t ps = mayB wi (bs (fieldT oN ps)) (bs t) (bs (fieldT cN ps)) := rfl
theorem oN_is : oN = (⟨#[65, 99, 99, 101, 115, 115, 45, 67, 111, 110, 116, 114, 111, 108, 45, 65, 108, 108, 111, 119, 45, 79, 114, 105, 103, 105, 110]⟩ : ByteArray).data.toList := rfl
theorem cN_is : cN = (⟨#[65, 99, 99, 101, 115, 115, 45, 67, 111, 110, 116, 114, 111, 108, 45, 65, 108, 108, 111, 119, 45, 67, 114, 101, 100, 101, 110, 116, 105, 97, 108, 115]⟩ : ByteArray).data.toList := rfl
theorem oN_low : (⟨#[97, 99, 99, 101, 115, 115, 45, 99, 111, 110, 116, 114, 111, 108, 45, 97, 108, 108, 111, 119, 45, 111, 114, 105, 103, 105, 110]⟩ : ByteArray).data.toList.map low = oN.map low := by decide +kernel
theorem cN_low : (⟨#[97, 99, 99, 101, 115, 115, 45, 99, 111, 110, 116, 114, 111, 108, 45, 97, 108, 108, 111, 119, 45, 99, 114, 101, 100, 101, 110, 116, 105, 97, 108, 115]⟩ : ByteArray).data.toList.map low = cN.map low := by decide +kernel
end Go.Proofs.YthoblggjhdnlpaaGreatDoor

/- How long an answer counts. -/
namespace Go.Proofs.YthoblggjhdnlpaaGreatDoor

def aN : List UInt8 := [65, 99, 99, 101, 115, 115, 45, 67, 111, 110, 116, 114, 111, 108, 45, 77, 97, 120, 45, 65, 103, 101]
def ageL (ps : List Par) : Int := match secL (fieldT aN ps) with | none => 5 | some n => min (n : Int) 600
theorem aN_is : aN = (⟨#[65, 99, 99, 101, 115, 115, 45, 67, 111, 110, 116, 114, 111, 108, 45, 77, 97, 120, 45, 65, 103, 101]⟩ : ByteArray).data.toList := rfl
theorem aN_low : (⟨#[97, 99, 99, 101, 115, 115, 45, 99, 111, 110, 116, 114, 111, 108, 45, 109, 97, 120, 45, 97, 103, 101]⟩ : ByteArray).data.toList.map low = aN.map low := by decide +kernel
theorem ageL_bounds (ps : List Par) : 0 ≤ ageL ps ∧ ageL ps ≤ 600 := by
  unfold ageL
  split
  · decide
  · omega
theorem ageL_none {ps : List Par} (h : fieldL aN ps = none) : ageL ps = 5 := by
  unfold ageL
  rw [fieldT_none h]
  rfl
end Go.Proofs.YthoblggjhdnlpaaGreatDoor

/- What an answer allows a request. -/
namespace Go.Proofs.YthoblggjhdnlpaaGreatDoor

/-- The methods that an answer tells, or the request's own one. -/
def msOf (ms : List ByteArray) (m : ByteArray) : List ByteArray := if ms.length = 0 then [m] else ms
/-- The method and the header of each pass, or what is wrong. -/
def grantL (p : PsV) (may wi : Bool) (m : ByteArray) (xs : List ByteArray) (ps : List Par) : Except Int (List (ByteArray × ByteArray)) :=
  match wordsO (fieldT mN ps), wordsO (fieldT hN ps) with
  | some ms, some hs => if may = false then .error 6 else if coversL wi m xs ((passL (msOf ms m) hs).map p.of) then .ok (passL (msOf ms m) hs) else .error 6
  | _, _ => .error 3
theorem grantL_bad1 {p : PsV} {may wi : Bool} {m : ByteArray} {xs : List ByteArray} {ps : List Par} (h : wordsO (fieldT mN ps) = none) : grantL p may wi m xs ps = .error 3 := by
  unfold grantL
  rw [h]
theorem grantL_bad2 {p : PsV} {may wi : Bool} {m : ByteArray} {xs : List ByteArray} {ps : List Par} (h : wordsO (fieldT hN ps) = none) : grantL p may wi m xs ps = .error 3 := by
  unfold grantL
  rw [h]
  cases wordsO (fieldT mN ps) <;> rfl
theorem grantL_no {p : PsV} {wi : Bool} {m : ByteArray} {xs : List ByteArray} {ps : List Par} {ms hs : List ByteArray} (h1 : wordsO (fieldT mN ps) = some ms) (h2 : wordsO (fieldT hN ps) = some hs) : grantL p false wi m xs ps = .error 6 := by
  unfold grantL
  rw [h1, h2]
  rfl
theorem grantL_cov {p : PsV} {wi : Bool} {m : ByteArray} {xs : List ByteArray} {ps : List Par} {ms hs : List ByteArray} {t : Bool} (h1 : wordsO (fieldT mN ps) = some ms) (h2 : wordsO (fieldT hN ps) = some hs) (h3 : coversL wi m xs ((passL (msOf ms m) hs).map p.of) = t) : grantL p true wi m xs ps = if t then .ok (passL (msOf ms m) hs) else .error 6 := by
  unfold grantL
  rw [h1, h2]
  show (if coversL wi m xs _ = true then _ else _) = _
  rw [h3]
theorem mN_is : mN = (⟨#[65, 99, 99, 101, 115, 115, 45, 67, 111, 110, 116, 114, 111, 108, 45, 65, 108, 108, 111, 119, 45, 77, 101, 116, 104, 111, 100, 115]⟩ : ByteArray).data.toList := rfl
theorem hN_is : hN = (⟨#[65, 99, 99, 101, 115, 115, 45, 67, 111, 110, 116, 114, 111, 108, 45, 65, 108, 108, 111, 119, 45, 72, 101, 97, 100, 101, 114, 115]⟩ : ByteArray).data.toList := rfl
end Go.Proofs.YthoblggjhdnlpaaGreatDoor

/- strings.Builder: WriteString and String, laid at this program's numbers. -/
namespace Go.Proofs.YthoblggjhdnlpaaGreatDoor
open Go.Shelf Go.RowKit
def bld_ren : Go.Shelf.Ren := ⟨fun | 166 => 41 | 169 => 42 | 240 => 70 | 276 => 90 | n => n, fun | 9 => 9 | 3 => 3 | 4 => 4 | 0 => 0 | 20 => 20 | 72 => 85 | 76 => 59 | 70 => 82 | 37 => 83 | 75 => 35 | 127 => 108 | 164 => 122 | 5 => 5 | 80 => 86 | n => n, fun | n => n⟩
theorem bld166 : Go.Proofs.Lays.n166 Tryz.prog bld_ren := {
  mixed := by kernel_rfl
  f166 := Tryz.func41.trans (congrArg some (by kernel_rfl))
  f240 := Tryz.func70.trans (congrArg some (by kernel_rfl))
  f276 := Tryz.func90.trans (congrArg some (by kernel_rfl))
  t0 := Tryz.underlying0
  a0 := Tryz.isAgg0
  z0 := Tryz.sizeOf0
  v0 := Tryz.zeroValue0
  t3 := Tryz.underlying3
  a3 := Tryz.isAgg3
  z3 := Tryz.sizeOf3
  v3 := Tryz.zeroValue3
  t4 := Tryz.underlying4
  a4 := Tryz.isAgg4
  z4 := Tryz.sizeOf4
  v4 := Tryz.zeroValue4
  t9 := Tryz.underlying9
  a9 := Tryz.isAgg9
  z9 := Tryz.sizeOf9
  v9 := Tryz.zeroValue9
  t20 := Tryz.underlying20
  a20 := Tryz.isAgg20
  z20 := Tryz.sizeOf20
  v20 := Tryz.zeroValue20
  t37 := Tryz.underlying83
  a37 := Tryz.isAgg83
  z37 := Tryz.sizeOf83
  v37 := Tryz.zeroValue83
  t70 := Tryz.underlying82
  a70 := Tryz.isAgg82
  z70 := Tryz.sizeOf82
  v70 := Tryz.zeroValue82
  t72 := Tryz.underlying85
  a72 := Tryz.isAgg85
  z72 := Tryz.sizeOf85
  v72 := Tryz.zeroValue85
  t75 := Tryz.underlying35
  a75 := Tryz.isAgg35
  z75 := Tryz.sizeOf35
  v75 := Tryz.zeroValue35
  t164 := Tryz.underlying122
  a164 := Tryz.isAgg122
  z164 := Tryz.sizeOf122
  v164 := Tryz.zeroValue122 }
theorem bld169 : Go.Proofs.Lays.n169 Tryz.prog bld_ren := {
  mixed := by kernel_rfl
  f169 := Tryz.func42.trans (congrArg some (by kernel_rfl))
  t0 := Tryz.underlying0
  a0 := Tryz.isAgg0
  z0 := Tryz.sizeOf0
  v0 := Tryz.zeroValue0
  t3 := Tryz.underlying3
  a3 := Tryz.isAgg3
  z3 := Tryz.sizeOf3
  v3 := Tryz.zeroValue3
  t9 := Tryz.underlying9
  a9 := Tryz.isAgg9
  z9 := Tryz.sizeOf9
  v9 := Tryz.zeroValue9
  t37 := Tryz.underlying83
  a37 := Tryz.isAgg83
  z37 := Tryz.sizeOf83
  v37 := Tryz.zeroValue83
  t70 := Tryz.underlying82
  a70 := Tryz.isAgg82
  z70 := Tryz.sizeOf82
  v70 := Tryz.zeroValue82
  t72 := Tryz.underlying85
  a72 := Tryz.isAgg85
  z72 := Tryz.sizeOf85
  v72 := Tryz.zeroValue85
  t127 := Tryz.underlying108
  a127 := Tryz.isAgg108
  z127 := Tryz.sizeOf108
  v127 := Tryz.zeroValue108 }
theorem bldX : Builder.Extra Tryz.prog bld_ren := {
  sizeBuilder := by kernel_rfl
  liesBuilder := by kernel_rfl
  t5 := Tryz.underlying5
  a5 := Tryz.isAgg5
  z5 := Tryz.sizeOf5
  v5 := Tryz.zeroValue5
  infoByte := by kernel_rfl
  cellsByte := by kernel_rfl
  sizeByte := by kernel_rfl
  neB5 := by decide }
theorem bytes_cells (l : List UInt8) (s : ByteArray) : Lib.byteCells l ++ Lib.strCells s = Lib.byteCells (l ++ s.data.toList) := by
  simp [Lib.byteCells, Lib.strCells]
/-- More bytes into a builder. -/
theorem bld_write (B b : Nat) (l : List UInt8) (s : ByteArray) (w : World) (h : Lib.IsBuilder 85 5 B b (Lib.byteCells l) w) (hl : l.length + s.size ≤ 100000) (hB : B ≤ w.heap.size) :
    Calls Tryz.prog 41 #[.pointer (some ⟨b, 0, none⟩), .string s] w fun e w' => e = .returned (.tuple #[.int .i64 s.size, .nilIface]) ∧ Lib.IsBuilder 85 5 B b (Lib.byteCells (l ++ s.data.toList)) w' ∧ Below B w w' := by
  refine (Any.Builder_WriteString bld166 bldX B b _ s w h (by simp [Lib.byteCells]; omega) hB).mono ?_
  rintro e w' ⟨rfl, h2, hb⟩
  refine ⟨rfl, .inr ?_, hb⟩
  rw [← bytes_cells]
  exact h2
/-- What a builder holds, as a text. -/
theorem bld_string (B b : Nat) (l : List UInt8) (w : World) (h : Lib.IsBuilder 85 5 B b (Lib.byteCells l) w) (hB : B ≤ w.heap.size) :
    Calls Tryz.prog 42 #[.pointer (some ⟨b, 0, none⟩)] w fun e w' => e = .returned (.string (bs l)) ∧ Below B w w' := Any.Builder_String_any bld169 bldX B b l w h hB
end Go.Proofs.YthoblggjhdnlpaaGreatDoor

/- strings.Builder: texts that are written leave all else as it lay. -/
namespace Go.Proofs.YthoblggjhdnlpaaGreatDoor
open Go.Shelf Go.RowKit
/-- A builder at block b, its bytes, all among the blocks from B on. -/
def Built (w : World) (B b : Nat) (l : List UInt8) : Prop := Lib.IsBuilderF 85 5 B b (Lib.byteCells l) w
theorem builtAt_below {T e : TypeId} {B b : Nat} {p : Value} {l : List Value} {w w' : World} (h : Lib.BuilderAtF T e B b p l w) (hb : Below w.heap.size w w') : Lib.BuilderAtF T e B b p l w' := by
  have old : ∀ (k : Nat) (o : Obj), w.heap[k]? = some o → w'.heap[k]? = some o := fun k o hk => by
    rw [hb.block k (Array.getElem?_eq_some_iff.1 hk).1]
    exact hk
  obtain ⟨hB, v, hv, ⟨h1, h2⟩, hne⟩ := h
  refine ⟨hB, v, old _ _ hv, ⟨h1, ?_⟩, hne⟩
  rcases h2 with h2 | ⟨g, cap, cur, fz, e1, e2, e3, e4⟩
  · exact .inl h2
  · exact .inr ⟨g, cap, cur, fz, e1, e2, old _ _ e3, e4⟩
theorem Built.below {w w' : World} {B b : Nat} {l : List UInt8} (h : Built w B b l) (hb : Below w.heap.size w w') : Built w' B b l :=
  h.elim (fun x => .inl (builtAt_below x hb)) (fun x => .inr (builtAt_below x hb))
theorem Built.lt {w : World} {B b : Nat} {l : List UInt8} (h : Built w B b l) : B ≤ b ∧ b < w.heap.size := h.elim (fun x => ⟨x.1, x.lt⟩) (fun x => ⟨x.1, x.lt⟩)
/-- More bytes into a builder. -/
theorem bdk_write (B b : Nat) (l : List UInt8) (s : ByteArray) (w : World) (h : Built w B b l) (hl : l.length + s.size ≤ 10000000) (hB : B ≤ w.heap.size) :
    Calls Tryz.prog 41 #[.pointer (some ⟨b, 0, none⟩), .string s] w fun e w' => e = .returned (.tuple #[.int .i64 s.size, .nilIface]) ∧ Built w' B b (l ++ s.data.toList) ∧ Below B w w' ∧ Lib.OthersKept 5 (some b) w w' := by
  refine (Any.Builder_WriteString_k bld166 bldX B b _ s w h (by simp [Lib.byteCells]; omega) hB).mono ?_
  rintro e w' ⟨rfl, h2, hb, ho⟩
  refine ⟨rfl, .inr ?_, hb, ho⟩
  rw [← bytes_cells]
  exact h2
/-- What a builder holds, as a text. -/
theorem bdk_string (B b : Nat) (l : List UInt8) (w : World) (h : Built w B b l) (hB : B ≤ w.heap.size) :
    Calls Tryz.prog 42 #[.pointer (some ⟨b, 0, none⟩)] w fun e w' => e = .returned (.string (bs l)) ∧ Below B w w' := by
  refine (Any.Builder_String_any_k bld169 bldX B b l w h hB).mono ?_
  rintro e w' ⟨rfl, _, hb, _⟩
  exact ⟨rfl, hb⟩
/-- A block that is neither the builder's nor a row of bytes. -/
theorem kept_cells {w w' : World} {b k : Nat} {cs : Array Value} {T : TypeId} {fz : Nat × Nat} (h : Lib.OthersKept 5 (some b) w w') (hk : w.heap[k]? = some (.cells cs T fz)) (hT : T ≠ 5) (hb : k ≠ b) : w'.heap[k]? = some (.cells cs T fz) :=
  h k _ hk (by simpa using hb) (fun c f e => hT (by injection e))
end Go.Proofs.YthoblggjhdnlpaaGreatDoor

/- cors.Get: the values of a field, by the program. -/
namespace Go.Proofs.YthoblggjhdnlpaaGreatDoor
open Go.RowKit

theorem built_fresh (w : World) : Built (w.alloc (.cells #[.pointer none, .slice none 0 0] 85)) w.heap.size w.heap.size [] := Lib.IsBuilderF.of (Lib.fresh_isBuilder _ _ _)
/-- Fields that are few and not too long. -/
def FewW (ps : List Par) : Prop := ps.length ≤ 45 ∧ ∀ p ∈ ps, p.1.size ≤ 3000 ∧ p.2.size ≤ 3000
theorem Few9.wide {ps : List Par} (h : Few9 ps) : FewW ps := ⟨h.1, fun p hp => by have := h.2 p hp; omega⟩
set_option maxRecDepth 100000 in
set_option maxHeartbeats 4000000 in
theorem get9w_any (ps : List Par) (hf : FewW ps) (n : ByteArray) (hn : n.size ≤ 4000) (a0 : Option Addr) (len cap b off : Nat) (w : World) (hx : Pars w a0 len b off ps) :
    Calls Tryz.prog 19 #[.slice a0 len cap, .string n] w fun e w' => e = .returned (.tuple #[.string (bs (fieldT n.data.toList ps)), .bool (fieldL n.data.toList ps).isSome]) ∧ Below w.heap.size w w' := by
  have HX : Hid (Pars w a0 len b off ps) := hx
  have HF : Hid (FewW ps) := hf
  have hl := hx.len_eq
  have hlen : len ≤ 45 := by have := hf.1; omega
  have HL : Hid (ps.length = len) := hl
  have HB0 : Hid (Built (w.alloc (.cells #[.pointer none, .slice none 0 0] 85)) w.heap.size w.heap.size [] ∧ Below w.heap.size w (w.alloc (.cells #[.pointer none, .slice none 0 0] 85))) := ⟨built_fresh w, (Below.refl _ _).alloc (Nat.le_refl _) _⟩
  clear hx hf hl
  go_enter Tryz.func19, Tryz.ntmps19
  go_wp2
  go_loopw [7, 12] (fun v i wr => ∃ (k : Nat) (s : Option (List UInt8)), k ≤ len ∧ i = .int .i64 k ∧ v = .bool s.isSome ∧ Hid (fieldL n.data.toList (ps.take k) = s) ∧ Hid (Built wr w.heap.size w.heap.size (s.getD []) ∧ Below w.heap.size w wr)) (fun _ i _ => len - (intOf i).toNat)
  case atStart => exact ⟨0, none, Nat.zero_le _, rfl, rfl, rfl, HB0.out⟩
  case round =>
    obtain ⟨k, s, hk, rfl, rfl, HK, HI⟩ := hrel
    have hwz : w.heap.size < wr.heap.size := HI.out.1.lt.2
    by_cases hlt : k < len
    · have hltz : (k : Int) < (len : Int) := by omega
      obtain ⟨p, hp⟩ : ∃ p, ps[k]? = some p := ⟨ps[k]'(by have := HL.out; omega), List.getElem?_eq_getElem _⟩
      obtain ⟨pn, pv⟩ := p
      have HPK : Hid (ps[k]? = some (pn, pv)) := hp
      have hpz := HF.out.2 _ (List.mem_of_getElem? hp)
      have hz1 : pn.size ≤ 3000 := hpz.1
      have hz2 : pv.size ≤ 3000 := hpz.2
      obtain ⟨ha0, _⟩ := (HX.out.below HI.out.2).lies (by omega)
      subst ha0
      have c1 := (HX.out.below HI.out.2).one k _ hp
      have c2 := (HX.out.below HI.out.2).two k _ hp
      have HSZ : Hid ((s.getD []).length ≤ 3002 * 45) := by
        have h1 := fieldT_take_len n.data.toList ps 3000 (fun p hp => (HF.out.2 p hp).2) k
        unfold fieldT at h1
        rw [HK.out] at h1
        have h3 : (3000 + 2) * k ≤ 3002 * 45 := Nat.mul_le_mul_left _ (by omega)
        exact Nat.le_trans h1 h3
      have HB1 : Hid (Below wr.heap.size wr (wr.alloc (.cells #[.string pn, .string pv] 48))) := (Below.refl _ _).alloc (Nat.le_refl _) _
      have HBOX : Hid ((wr.alloc (.cells #[.string pn, .string pv] 48)).heap[wr.heap.size]? = some (.cells #[.string pn, .string pv] 48 (0, 0))) := heap_alloc_new wr _
      clear hp hpz
      obtain ⟨q, HQ⟩ : ∃ q, Hid (sameL pn.data.toList n.data.toList = q) := ⟨_, rfl⟩
      have hsm := fun w => same_any pn n (by omega) hn w
      rw [HQ.out] at hsm
      cases q
      · have HN : Hid (fieldL n.data.toList (ps.take (k + 1)) = s) := (fieldL_other HPK.out HQ.out).trans HK.out
        go_wp2_with fail
        refine (hsm _).mono ?_
        rintro e w2 ⟨rfl, hb2⟩
        have HB2 : Hid (Below wr.heap.size wr w2) := HB1.out.trans (hb2.mono HB1.out.size)
        have HI2 : Hid (Built w2 w.heap.size w.heap.size (s.getD []) ∧ Below w.heap.size w w2) := ⟨HI.out.1.below HB2.out, HI.out.2.trans (HB2.out.mono HI.out.2.size)⟩
        clear hb2
        go_wp2
        go_roundw
        case rel => exact ⟨k + 1, s, by omega, by go_num, rfl, HN, HI2⟩
        case measure => simp [intOf]; omega
      · have HN : Hid (fieldL n.data.toList (ps.take (k + 1)) = some (joinV s pv.data.toList)) := by
          have := fieldL_same HPK.out HQ.out
          rw [HK.out] at this
          exact this
        have HZV : Hid (pv.data.toList.length = pv.size) := Array.length_toList
        cases s with
        | none =>
          go_wp2_with fail
          refine (hsm _).mono ?_
          rintro e w2 ⟨rfl, hb2⟩
          have HB2 : Hid (Below wr.heap.size wr w2) := HB1.out.trans (hb2.mono HB1.out.size)
          have HI2 : Hid (Built w2 w.heap.size w.heap.size [] ∧ Below w.heap.size w w2) := ⟨HI.out.1.below HB2.out, HI.out.2.trans (HB2.out.mono HI.out.2.size)⟩
          have hd1 := cells_of (below_block hb2 HBOX.out) 1 _ rfl
          have hzr : w.heap.size ≤ w2.heap.size := HI2.out.2.size
          clear hb2
          go_wp2_with fail
          refine (bdk_write _ _ _ pv _ HI2.out.1 (by simp; omega) hzr).mono ?_
          rintro e w3 ⟨rfl, hw3, hb3, ho3⟩
          have HI3 : Hid (Built w3 w.heap.size w.heap.size pv.data.toList ∧ Below w.heap.size w w3) := ⟨by simpa using hw3, HI2.out.2.trans hb3⟩
          clear hw3 hb3 ho3
          go_wp2
          go_roundw
          case rel => exact ⟨k + 1, some (pv.data.toList), by omega, by go_num, rfl, HN, HI3⟩
          case measure => simp [intOf]; omega
        | some o =>
          go_wp2_with fail
          refine (hsm _).mono ?_
          rintro e w2 ⟨rfl, hb2⟩
          have HB2 : Hid (Below wr.heap.size wr w2) := HB1.out.trans (hb2.mono HB1.out.size)
          have HI2 : Hid (Built w2 w.heap.size w.heap.size o ∧ Below w.heap.size w w2) := ⟨HI.out.1.below HB2.out, HI.out.2.trans (HB2.out.mono HI.out.2.size)⟩
          have HBX2 : Hid (w2.heap[wr.heap.size]? = some (.cells #[.string pn, .string pv] 48 (0, 0))) := below_block hb2 HBOX.out
          have hzr : w.heap.size ≤ w2.heap.size := HI2.out.2.size
          have hol : o.length ≤ 3002 * 45 := HSZ.out
          clear hb2
          go_wp2_with fail
          refine (bdk_write _ _ _ ⟨#[44, 32]⟩ _ HI2.out.1 (by have : (⟨#[44, 32]⟩ : ByteArray).size = 2 := rfl; omega) hzr).mono ?_
          rintro e w3 ⟨rfl, hw3, hb3, ho3⟩
          have HI3 : Hid (Built w3 w.heap.size w.heap.size (o ++ [44, 32]) ∧ Below w.heap.size w w3) := ⟨hw3, HI2.out.2.trans hb3⟩
          have hd1 := cells_of (kept_cells ho3 HBX2.out (by decide) (by omega)) 1 _ rfl
          have hzs : w.heap.size ≤ w3.heap.size := HI3.out.2.size
          clear hw3 hb3 ho3
          go_wp2_with fail
          refine (bdk_write _ _ _ pv _ HI3.out.1 (by simp; omega) hzs).mono ?_
          rintro e w4 ⟨rfl, hw4, hb4, ho4⟩
          have HI4 : Hid (Built w4 w.heap.size w.heap.size (o ++ 44 :: 32 :: pv.data.toList) ∧ Below w.heap.size w w4) := ⟨by simpa using hw4, HI3.out.2.trans hb4⟩
          clear hw4 hb4 ho4
          go_wp2
          go_roundw
          case rel => exact ⟨k + 1, some (o ++ 44 :: 32 :: pv.data.toList), by omega, by go_num, rfl, HN, HI4⟩
          case measure => simp [intOf]; omega
    · have hltz : ¬ (k : Int) < (len : Int) := by omega
      have HE : Hid (fieldL n.data.toList ps = s) := by
        have := HK.out
        rw [List.take_of_length_le (by have := HL.out; omega)] at this
        exact this
      have HT : Hid (fieldT n.data.toList ps = s.getD []) := by show _ = _; unfold fieldT; rw [HE.out]
      go_wp2_with fail
      refine (bdk_string _ _ _ _ HI.out.1 (Nat.le_of_lt hwz)).mono ?_
      rintro e w2 ⟨rfl, hb2⟩
      have HB2 : Hid (Below w.heap.size w w2) := HI.out.2.trans hb2
      obtain ⟨so, HSO⟩ : ∃ so, Hid (bs (s.getD []) = so) := ⟨_, rfl⟩
      rw [HSO.out]
      go_wp2
      go_ret2
      exact ⟨by rw [HE.out, HT.out, HSO.out]; rfl, HB2.out⟩
theorem get9_any (ps : List Par) (hf : Few9 ps) (n : ByteArray) (hn : n.size ≤ 4000) (a0 : Option Addr) (len cap b off : Nat) (w : World) (hx : Pars w a0 len b off ps) :
    Calls Tryz.prog 19 #[.slice a0 len cap, .string n] w fun e w' => e = .returned (.tuple #[.string (bs (fieldT n.data.toList ps)), .bool (fieldL n.data.toList ps).isSome]) ∧ Below w.heap.size w w' :=
  get9w_any ps hf.wide n hn a0 len cap b off w hx
end Go.Proofs.YthoblggjhdnlpaaGreatDoor

/- words: the list that a field tells, by the program. -/
namespace Go.Proofs.YthoblggjhdnlpaaGreatDoor
open Go.RowKit

/-- What words answers. -/
def WdsAns (o : Option (List ByteArray)) (B : Nat) (e : Ending) (w' : World) : Prop :=
  (∃ (xs : List ByteArray) (v : Value), o = some xs ∧ e = .returned (.tuple #[v, .bool true]) ∧ OwnS w' B v xs) ∨ (o = none ∧ e = .returned (.tuple #[.slice none 0 0, .bool false]))
set_option maxRecDepth 100000 in
set_option maxHeartbeats 4000000 in
theorem words9_any (ps : List Par) (hf : Few9 ps) (n : ByteArray) (hn : n.size ≤ 4000) (a0 : Option Addr) (len cap b off : Nat) (w : World) (hx : Pars w a0 len b off ps) :
    Calls Tryz.prog 16 #[.slice a0 len cap, .string n] w fun e w' => WdsAns (wordsO (fieldT n.data.toList ps)) w.heap.size e w' ∧ Below w.heap.size w w' := by
  obtain ⟨x, HXE⟩ : ∃ x, Hid (bs (fieldT n.data.toList ps) = x) := ⟨_, rfl⟩
  have hxz : x.size ≤ 20000 := by rw [← HXE.out, bs_size]; exact Nat.le_trans (hf.len _) (by decide)
  have HXL : Hid (fieldT n.data.toList ps = x.data.toList) := by show _ = _; rw [← HXE.out, bs_data]
  have hg := get9_any ps hf n hn a0 len cap b off w hx
  rw [HXE.out] at hg
  rw [HXL.out]
  clear hf hx
  go_enter Tryz.func16, Tryz.ntmps16
  go_wp2_with fail
  refine hg.mono ?_
  rintro e w1 ⟨rfl, hb1⟩
  have HB1 : Hid (Below w.heap.size w w1) := hb1
  clear hb1 hg
  go_wp2_with fail
  refine (list_any x hxz _).mono ?_
  rintro e w2 ⟨⟨xs, v, hl, h40, rfl, hown⟩ | ⟨xs, hl, h40, rfl⟩ | ⟨p, g, hl, rfl, _, _, _⟩, hb2⟩
  · have HW : Hid (wordsO x.data.toList = some xs) := wordsO_ok hl h40
    have HO : Hid (OwnS w2 w.heap.size v xs) := World.ownsRow.mono hown (by have := HB1.out.size; omega)
    have HB2 : Hid (Below w.heap.size w w2) := HB1.out.trans (hb2.mono HB1.out.size)
    clear hl hown hb2
    go_wp2_with fail
    go_quiet (fail)
    go_wp2
    go_ret2
    exact ⟨.inl ⟨xs, v, HW.out, rfl, HO.out.below (drewN_below (Below.refl _ _) _)⟩, drewN_below HB2.out _⟩
  · have HW : Hid (wordsO x.data.toList = none) := wordsO_many hl h40
    have HB2 : Hid (Below w.heap.size w w2) := HB1.out.trans (hb2.mono HB1.out.size)
    clear hl hb2
    go_wp2_with fail
    go_quiet (fail)
    go_wp2
    go_ret2
    exact ⟨.inr ⟨HW.out, rfl⟩, drewN_below HB2.out _⟩
  · have HW : Hid (wordsO x.data.toList = none) := wordsO_bad hl
    have HB2 : Hid (Below w.heap.size w w2) := HB1.out.trans (hb2.mono HB1.out.size)
    clear hl hb2
    go_wp2_with fail
    go_quiet (fail)
    go_wp2
    go_ret2
    exact ⟨.inr ⟨HW.out, rfl⟩, drewN_below HB2.out _⟩
end Go.Proofs.YthoblggjhdnlpaaGreatDoor

/- New blocks; rows of bytes. -/

/- The two schemes, as the program's table has them; the program's ports. -/
namespace Go.Proofs.YthoblggjhdnlpaaGreatDoor
open Go.RowKit

/-- What the table of schemes holds. -/
structure Schemes (w : World) : Prop where
  lt : 1 < w.heap.size
  c0 : w.cell? ⟨1, 0, none⟩ = some (.string ⟨#[104, 116, 116, 112, 58, 47, 47]⟩)
  c1 : w.cell? ⟨1, 1, none⟩ = some (.bool false)
  c2 : w.cell? ⟨1, 2, none⟩ = some (.int .i64 80)
  c3 : w.cell? ⟨1, 3, none⟩ = some (.string ⟨#[104, 116, 116, 112, 115, 58, 47, 47]⟩)
  c4 : w.cell? ⟨1, 4, none⟩ = some (.bool true)
  c5 : w.cell? ⟨1, 5, none⟩ = some (.int .i64 443)
theorem Schemes.below {w w' : World} (h : Schemes w) {H : Nat} (hb : Below H w w') (hH : w.heap.size ≤ H) : Schemes w' := by
  have hg := Nat.lt_of_lt_of_le h.lt hH
  have hc := fun i => hb.cell (p := ⟨1, i, none⟩) hg
  have hz := hb.size
  exact ⟨by have := h.lt; omega, (hc 0).trans h.c0, (hc 1).trans h.c1, (hc 2).trans h.c2, (hc 3).trans h.c3, (hc 4).trans h.c4, (hc 5).trans h.c5⟩
theorem lt_of_cell {W : World} {g i : Nat} {v : Value} (h : W.cell? ⟨g, i, none⟩ = some v) : g < W.heap.size := by
  rcases Nat.lt_or_ge g W.heap.size with hl | hl
  · exact hl
  · simp [World.cell?, Array.getElem?_eq_none hl] at h
set_option maxRecDepth 100000 in
theorem scheme_cells {H : Type} {enc : TypeId × Value → H} {w : World} {base : Nat} {sp : Nat → Bool} {held : Bool} {fuel : Nat} {cs : List Value} {p : List MemPlace} {m : List UInt8} {b : Bool} {n : Int}
    (h : DataW.trod enc Tryz.prog w base sp held fuel 90 cs = some (.agg [.lit (.string m), .lit (.bool b), .lit (.int .i64 n)], p)) : cs[0]? = some (.string (bs m)) ∧ cs[1]? = some (.bool b) ∧ cs[2]? = some (.int .i64 n) := by
  obtain ⟨xs, k, rfl, hx, hl, hxl, hall⟩ := DataW.trod_struct Tryz.underlying90 h
  have hxs : xs.map (·.1) = [(.lit (.string m) : DataW H), .lit (.bool b), .lit (.int .i64 n)] := by
    have := congrArg Prod.fst hx
    simpa using this.symm
  have k9 : Tryz.prog.cellsOf 9 = 1 := by kernel_rfl
  have k4 : Tryz.prog.cellsOf 4 = 1 := by kernel_rfl
  have k3 : Tryz.prog.cellsOf 3 = 1 := by kernel_rfl
  have h0 : DataW.trod enc Tryz.prog w base sp held k 9 ((cs.drop 0).take (Tryz.prog.cellsOf 9)) = xs[0]? := hall 0 _ rfl
  have h1 : DataW.trod enc Tryz.prog w base sp held k 4 ((cs.drop 1).take (Tryz.prog.cellsOf 4)) = xs[1]? := hall 1 _ rfl
  have h2 : DataW.trod enc Tryz.prog w base sp held k 3 ((cs.drop 2).take (Tryz.prog.cellsOf 3)) = xs[2]? := hall 2 _ rfl
  rw [k9] at h0
  rw [k4] at h1
  rw [k3] at h2
  match xs, hxs with
  | [x0, x1, x2], hxs =>
    simp only [List.map_cons, List.map_nil, List.cons.injEq, and_true] at hxs
    obtain ⟨e0, e1, e2⟩ := hxs
    simp only [List.getElem?_cons_zero, List.getElem?_cons_succ] at h0 h1 h2
    obtain ⟨s, hs, hx0, _⟩ := DataW.trod_string Tryz.underlying9 h0
    obtain ⟨c, hc, hx1⟩ := DataW.trod_bool Tryz.underlying4 h1
    obtain ⟨z, hz, hx2, _⟩ := DataW.trod_int Tryz.underlying3 h2
    rw [hx0] at e0
    rw [hx1] at e1
    rw [hx2] at e2
    simp only [DataW.lit.injEq, Lit.string.injEq, Lit.bool.injEq, Lit.int.injEq, true_and] at e0 e1 e2
    subst e0 e1 e2
    rw [bs_self]
    refine ⟨?_, ?_, ?_⟩
    · have := congrArg (·[0]?) hs
      simpa [List.getElem?_take, List.getElem?_drop] using this
    · have := congrArg (·[0]?) hc
      simpa [List.getElem?_take, List.getElem?_drop] using this
    · have := congrArg (·[0]?) hz
      simpa [List.getElem?_take, List.getElem?_drop] using this
set_option maxRecDepth 100000 in
theorem schemes_laid {W : World} (h : Lib.VarReads Tryz.prog W "gatepost/url.schemes" Rows.laid_gatepost_url_schemes) : Schemes W := by
  obtain ⟨g', t', cs, fuel, p, hg, hty, hvar, hd⟩ := h
  have hn : Tryz.prog.globalNamed "gatepost/url.schemes" = some 1 := by kernel_rfl
  have ht : (Tryz.prog.globals[1]?).map (·.type) = some 109 := by kernel_rfl
  obtain rfl := Option.some.inj (hn.symm.trans hg)
  obtain rfl := Option.some.inj (ht.symm.trans hty)
  have k3 : Tryz.prog.cellsOf 90 = 3 := by kernel_rfl
  obtain ⟨f0, d0, q0, hd0, he0⟩ := Lib.array_elem Tryz.underlying109 hd 0 (by omega)
  obtain ⟨f1, d1, q1, hd1, he1⟩ := Lib.array_elem Tryz.underlying109 hd 1 (by omega)
  simp only [List.getElem?_cons_zero, List.getElem?_cons_succ, Option.some.injEq] at hd0 hd1
  subst hd0 hd1
  clear hd
  obtain ⟨a0, a1, a2⟩ := scheme_cells he0
  obtain ⟨b0, b1, b2⟩ := scheme_cells he1
  clear he0 he1
  rw [k3] at a0 a1 a2 b0 b1 b2
  simp only [List.getElem?_take, List.getElem?_drop] at a0 a1 a2 b0 b1 b2
  have hv := fun i => World.var?_cell hg hvar i
  have c0 : W.cell? ⟨1, 0, none⟩ = some (.string ⟨#[104, 116, 116, 112, 58, 47, 47]⟩) := by rw [hv 0, ← Array.getElem?_toList]; exact a0
  refine ⟨lt_of_cell c0, c0, ?_, ?_, ?_, ?_, ?_⟩
  · rw [hv 1, ← Array.getElem?_toList]; exact a1
  · rw [hv 2, ← Array.getElem?_toList]; exact a2
  · rw [hv 3, ← Array.getElem?_toList]; exact b0
  · rw [hv 4, ← Array.getElem?_toList]; exact b1
  · rw [hv 5, ← Array.getElem?_toList]; exact b2

theorem field_mark (a b c : Value) (W : World) : (Instr.field 90 (.agg #[a, b, c]) 0).run Tryz.prog W = .ok a W := by kernel_rfl
theorem field_secure (a b c : Value) (W : World) : (Instr.field 90 (.agg #[a, b, c]) 1).run Tryz.prog W = .ok b W := by kernel_rfl
theorem field_port (a b c : Value) (W : World) : (Instr.field 90 (.agg #[a, b, c]) 2).run Tryz.prog W = .ok c W := by kernel_rfl
def markOf (sec : Bool) : ByteArray := if sec then ⟨#[104, 116, 116, 112, 115, 58, 47, 47]⟩ else ⟨#[104, 116, 116, 112, 58, 47, 47]⟩
theorem schemeOf_yes (w : World) (h : Schemes w) :
    Calls Tryz.prog 45 #[.bool true] w fun e w' => e = .returned (.agg #[.string ⟨#[104, 116, 116, 112, 115, 58, 47, 47]⟩, .bool true, .int .i64 443]) ∧ Below w.heap.size w w' := by
  obtain ⟨hlt, h0, h1, h2, h3, h4, h5⟩ := h
  go_enter Tryz.func45, Tryz.ntmps45
  go_wp2
  (try simp only [Exit.inBlock, Exit.then])
  refine bodyPost_ret (v := .agg #[.string ⟨#[104, 116, 116, 112, 115, 58, 47, 47]⟩, .bool true, .int .i64 443]) ?_ rfl ⟨rfl, (Below.refl _ _).alloc (Nat.le_refl _) _⟩
  simp [results, Tryz.f45, go_sem]
theorem schemeOf_no (w : World) (h : Schemes w) :
    Calls Tryz.prog 45 #[.bool false] w fun e w' => e = .returned (.agg #[.string ⟨#[104, 116, 116, 112, 58, 47, 47]⟩, .bool false, .int .i64 80]) ∧ Below w.heap.size w w' := by
  obtain ⟨hlt, h0, h1, h2, h3, h4, h5⟩ := h
  go_enter Tryz.func45, Tryz.ntmps45
  go_wp2
  (try simp only [Exit.inBlock, Exit.then])
  refine bodyPost_ret (v := .agg #[.string ⟨#[104, 116, 116, 112, 58, 47, 47]⟩, .bool false, .int .i64 80]) ?_ rfl ⟨rfl, (Below.refl _ _).alloc (Nat.le_refl _) _⟩
  simp [results, Tryz.f45, go_sem]
theorem schemeOf_any (sec : Bool) (w : World) (h : Schemes w) :
    Calls Tryz.prog 45 #[.bool sec] w fun e w' => e = .returned (.agg #[.string (markOf sec), .bool sec, .int .i64 (portI sec)]) ∧ Below w.heap.size w w' := by
  cases sec
  · exact schemeOf_no w h
  · exact schemeOf_yes w h
end Go.Proofs.YthoblggjhdnlpaaGreatDoor

/- The library's contracts that are leant on, laid at this program's numbers. -/
namespace Go.Proofs.YthoblggjhdnlpaaGreatDoor
open Go.Shelf Go.RowKit
def laysM171_ren : Go.Shelf.Ren := ⟨fun | 171 => 46 | 243 => 71 | 246 => 91 | 283 => 112 | 284 => 113 | 285 => 114 | 286 => 115 | 129 => 102 | 317 => 125 | 318 => 126 | 319 => 127 | 320 => 128 | 337 => 130 | 338 => 131 | n => n, fun | 3 => 3 | 9 => 9 | 2 => 2 | 4 => 4 | 171 => 140 | 0 => 0 | 53 => 136 | 37 => 83 | 5 => 5 | 173 => 142 | 212 => 158 | 51 => 134 | 20 => 20 | 213 => 159 | 46 => 50 | 232 => 164 | 233 => 165 | n => n, fun | 17 => 5 | 18 => 6 | 19 => 7 | n => n⟩
theorem laysM171 : Go.Proofs.LaysM.n171 Tryz.prog laysM171_ren := {
  mixed := by kernel_rfl
  f129 := Tryz.func102.trans (congrArg some (by kernel_rfl))
  f171 := Tryz.func46.trans (congrArg some (by kernel_rfl))
  f243 := Tryz.func71.trans (congrArg some (by kernel_rfl))
  f246 := Tryz.func91.trans (congrArg some (by kernel_rfl))
  f283 := Tryz.func112.trans (congrArg some (by kernel_rfl))
  f284 := Tryz.func113.trans (congrArg some (by kernel_rfl))
  f285 := Tryz.func114.trans (congrArg some (by kernel_rfl))
  f286 := Tryz.func115.trans (congrArg some (by kernel_rfl))
  f317 := Tryz.func125.trans (congrArg some (by kernel_rfl))
  f318 := Tryz.func126.trans (congrArg some (by kernel_rfl))
  f319 := Tryz.func127.trans (congrArg some (by kernel_rfl))
  f320 := Tryz.func128.trans (congrArg some (by kernel_rfl))
  f337 := Tryz.func130.trans (congrArg some (by kernel_rfl))
  f338 := Tryz.func131.trans (congrArg some (by kernel_rfl))
  t0 := Tryz.underlying0
  a0 := Tryz.isAgg0
  z0 := Tryz.sizeOf0
  v0 := Tryz.zeroValue0
  t2 := Tryz.underlying2
  a2 := Tryz.isAgg2
  z2 := Tryz.sizeOf2
  v2 := Tryz.zeroValue2
  t3 := Tryz.underlying3
  a3 := Tryz.isAgg3
  z3 := Tryz.sizeOf3
  v3 := Tryz.zeroValue3
  t4 := Tryz.underlying4
  a4 := Tryz.isAgg4
  z4 := Tryz.sizeOf4
  v4 := Tryz.zeroValue4
  t5 := Tryz.underlying5
  a5 := Tryz.isAgg5
  z5 := Tryz.sizeOf5
  v5 := Tryz.zeroValue5
  t9 := Tryz.underlying9
  a9 := Tryz.isAgg9
  z9 := Tryz.sizeOf9
  v9 := Tryz.zeroValue9
  t20 := Tryz.underlying20
  a20 := Tryz.isAgg20
  z20 := Tryz.sizeOf20
  v20 := Tryz.zeroValue20
  t37 := Tryz.underlying83
  a37 := Tryz.isAgg83
  z37 := Tryz.sizeOf83
  v37 := Tryz.zeroValue83
  t46 := Tryz.underlying50
  a46 := Tryz.isAgg50
  z46 := Tryz.sizeOf50
  v46 := Tryz.zeroValue50
  t51 := Tryz.underlying134
  a51 := Tryz.isAgg134
  z51 := Tryz.sizeOf134
  v51 := Tryz.zeroValue134
  t53 := Tryz.underlying136
  a53 := Tryz.isAgg136
  z53 := Tryz.sizeOf136
  v53 := Tryz.zeroValue136
  t171 := Tryz.underlying140
  a171 := Tryz.isAgg140
  z171 := Tryz.sizeOf140
  v171 := Tryz.zeroValue140
  t173 := Tryz.underlying142
  a173 := Tryz.isAgg142
  z173 := Tryz.sizeOf142
  v173 := Tryz.zeroValue142
  t212 := Tryz.underlying158
  a212 := Tryz.isAgg158
  z212 := Tryz.sizeOf158
  v212 := Tryz.zeroValue158
  t213 := Tryz.underlying159
  a213 := Tryz.isAgg159
  z213 := Tryz.sizeOf159
  t232 := Tryz.underlying164
  a232 := Tryz.isAgg164
  z232 := Tryz.sizeOf164
  v232 := Tryz.zeroValue164
  t233 := Tryz.underlying165
  a233 := Tryz.isAgg165
  z233 := Tryz.sizeOf165
  v233 := Tryz.zeroValue165
  g17 := by kernel_rfl
  g18 := by kernel_rfl
  g19 := by kernel_rfl
  i0 := by kernel_rfl
  i2 := by kernel_rfl
  i3 := by kernel_rfl
  i4 := by kernel_rfl
  i5 := by kernel_rfl
  i9 := by kernel_rfl
  i20 := by kernel_rfl
  i37 := by kernel_rfl
  i46 := by kernel_rfl
  i51 := by kernel_rfl
  i53 := by kernel_rfl
  i171 := by kernel_rfl
  i173 := by kernel_rfl
  i212 := by kernel_rfl
  i232 := by kernel_rfl
  i233 := by kernel_rfl
  m17 := by kernel_rfl
  m18 := by kernel_rfl
  m19 := by kernel_rfl }
theorem itoa_any (n : Int) (h0 : -9223372036854775808 ≤ n) (h1 : n ≤ 9223372036854775807) (w : World) (htab : Lib.TabIs Tryz.prog w "internal/strconv.uint64pow10" .u64 Lib.pow10Tab) :
    Calls Tryz.prog 46 #[.int .i64 n] w fun e w' => e = .returned (.string (bs (Lib.itoa n))) ∧ Below w.heap.size w w' := by
  refine (Any.strconv_Itoa laysM171 n h0 h1 w htab).mono ?_
  rintro e w' ⟨rfl, k, os, rfl⟩
  exact ⟨rfl, Lib.below_grow _ w (Nat.le_refl _) k os⟩
end Go.Proofs.YthoblggjhdnlpaaGreatDoor
