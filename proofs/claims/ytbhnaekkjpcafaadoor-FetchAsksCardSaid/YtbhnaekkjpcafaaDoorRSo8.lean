/- Texts, rising, each once, by the document's own answer. -/
import Derived.Test.YtbhnaekkjpcafaaDoorAsk8
import Derived.Test.YtbhnaekkjpcafaaDoorShSortS
import Derived.Deep.LoopGhost
import Derived.Deep.Cut
import Derived.Deep.CutRange
import Derived.Deep.DeepCutAuto
namespace Go.Proofs.YtbhnaekkjpcafaaDoor
open Go.RowKit Go.Shelf Go.Sort

set_option maxHeartbeats 1000000 in
theorem sortS_own (w : World) (B : Nat) (v : Value) (xs : List ByteArray) (h : OwnS w B v xs) (hl : xs.length ≤ 1000000) :
    Calls Tryd.prog 74 #[v] w fun e w' => e = .returned (.tuple #[]) ∧ OwnS w' B v ((sortL (tx xs)).map bs) ∧ w.grownBy w' v.ownBlock := by
  have henc := h.enc
  have hlen : (tx xs).length = xs.length := by unfold tx; simp
  rcases henc.2 with ⟨rfl, h0⟩ | ⟨g, cap, cur, rfl, hbase, hb, h1, h2, h3, h4⟩
  · obtain rfl : xs = [] := List.eq_nil_of_length_eq_zero h0
    refine (Any.sort_Strings_none lays192 none 0 w).mono ?_
    rintro e w' ⟨rfl, rfl⟩
    refine ⟨rfl, ?_, ⟨rfl, rfl, rfl, Nat.le_refl _, fun _ _ _ => rfl⟩⟩
    have : sortL (tx []) = [] := by unfold tx sortL; simp
    rw [this]
    exact h
  · have hH : Holds Proofs.encStr w g 0 (tx xs).toArray := holds_of_block hb (by rw [hlen]; rw [Nat.mul_one] at h4; exact h4)
    have hs := Any.sort_Strings lays192 g 0 cap (tx xs) w hH (Array.getElem?_eq_some_iff.1 hb).1 (by rw [hlen]; omega)
    rw [hlen] at hs
    refine hs.mono ?_
    rintro e w' ⟨rfl, n, os, rfl⟩
    refine ⟨rfl, ?_, grownBy_sorted _⟩
    have ho := ownsRow_sorted (n := n) (os := os) (ss := tx xs) (ts := sortL (tx xs)) (sortL_len _) hbase hb (by rw [hlen]; exact h1) h2 h3
    rw [enc_bs, hlen] at ho
    unfold OwnS
    rw [List.length_map, sortL_len, hlen]
    exact ho
/-- What is kept of the first k of these. -/
def keptK (ss : List (List UInt8)) (k : Nat) : List ByteArray := (Lib.compactUpTo ss.toArray k).map bs
theorem kept_all (ss : List (List UInt8)) : keptK ss ss.length = (Lib.compact ss).map bs := rfl
theorem kept_first (ss : List (List UInt8)) (x : List UInt8) (h : ss[0]? = some x) : keptK ss 1 = keptK ss 0 ++ [bs x] := by
  unfold keptK
  rw [Lib.compactUpTo_succ, if_pos (by simp [Lib.keeps])]
  obtain ⟨h1, e⟩ := List.getElem?_eq_some_iff.1 h
  simp [getElem!_pos, h1, e]
theorem kept_next (ss : List (List UInt8)) (j : Nat) (x y : List UInt8) (hx : ss[j + 1]? = some x) (hy : ss[j]? = some y) (hne : x ≠ y) : keptK ss (j + 2) = keptK ss (j + 1) ++ [bs x] := by
  unfold keptK
  obtain ⟨h1, e1⟩ := List.getElem?_eq_some_iff.1 hx
  obtain ⟨h2, e2⟩ := List.getElem?_eq_some_iff.1 hy
  have a1 : ss.toArray[j + 1]! = x := by simp [getElem!_pos, h1, e1]
  have a2 : ss.toArray[j]! = y := by simp [getElem!_pos, h2, e2]
  rw [Lib.compactUpTo_succ, if_pos (by unfold Lib.keeps; exact decide_eq_true (.inr (by rw [Nat.add_sub_cancel, a1, a2]; exact hne))), a1]
  simp
theorem kept_same (ss : List (List UInt8)) (j : Nat) (x : List UInt8) (hx : ss[j + 1]? = some x) (hy : ss[j]? = some x) : keptK ss (j + 2) = keptK ss (j + 1) := by
  unfold keptK
  obtain ⟨h1, e1⟩ := List.getElem?_eq_some_iff.1 hx
  obtain ⟨h2, e2⟩ := List.getElem?_eq_some_iff.1 hy
  have a1 : ss.toArray[j + 1]! = x := by simp [getElem!_pos, h1, e1]
  have a2 : ss.toArray[j]! = x := by simp [getElem!_pos, h2, e2]
  rw [Lib.compactUpTo_succ, if_neg (by unfold Lib.keeps; rw [Nat.add_sub_cancel, a1, a2]; simp)]
  simp
theorem kept_le (ss : List (List UInt8)) (k : Nat) : (keptK ss k).length ≤ k := by
  unfold keptK Lib.compactUpTo
  rw [List.length_map, List.length_map]
  refine Nat.le_trans (List.length_filter_le _ _) ?_
  rw [List.length_range]
  exact Nat.le_refl _
theorem bs_ne {x y : List UInt8} (h : x ≠ y) : ((bs x).toList == (bs y).toList) = false := by
  rw [beq_eq_false_iff_ne, ByteArray.toList_eq, ByteArray.toList_eq, bs_data, bs_data]
  exact h
set_option maxRecDepth 100000 in
set_option maxHeartbeats 8000000 in
theorem sortedR_any (B : Nat) (v : Value) (xs : List ByteArray) (hl : xs.length ≤ 1000) (w : World) (hB : B ≤ w.heap.size) (h : OwnS w B v xs) :
    Calls Tryd.prog 41 #[v] w fun e w' => (∃ v', e = .returned v' ∧ OwnS w' B v' ((Lib.compact (sortL (tx xs))).map bs)) ∧ Below B w w' := by
  have HO : Hid (OwnS w B v xs) := h
  clear h
  go_enter Tryd.func41, Tryd.ntmps41
  go_wp2_with fail
  refine (sortS_own _ B v xs HO.out (by omega)).mono ?_
  rintro e w1 ⟨rfl, hown, hg⟩
  obtain ⟨ss, HSS⟩ : ∃ ss, Hid (sortL (tx xs) = ss) := ⟨_, rfl⟩
  rw [HSS.out] at hown
  have hsl : ss.length = xs.length := by rw [← HSS.out, sortL_len]; unfold tx; simp
  have HB1 : Hid (Below B w w1) := (Below.refl B w).grown hg hB (fun j hj => (HO.out.lt j hj).1)
  obtain ⟨n, HN⟩ : ∃ n, Hid (ss.length = n) := ⟨_, rfl⟩
  obtain ⟨a, cap, rfl⟩ : ∃ a cap, v = .slice a n cap := by
    obtain ⟨a, cap, _, e, _⟩ := hown.strs
    rw [List.length_map, HN.out] at e
    exact ⟨a, cap, e⟩
  have HW1 : Hid (OwnS w1 B (.slice a n cap) (ss.map bs)) := hown
  have hn : n ≤ 1000 := by rw [← HN.out, hsl]; exact hl
  clear hown hg hsl hl
  go_wp2
  go_loopw [3, 10] (fun s3 i wr => ∃ (k : Nat) (u : Value), k ≤ n ∧ u = s3 ∧ i = .int .i64 k ∧ Hid (Two wr B u (.slice a n cap) (keptK ss k) (ss.map bs) ∧ Below B w wr)) (fun _ i _ => n - (intOf i).toNat)
  case atStart => exact ⟨0, _, Nat.zero_le _, rfl, rfl, ⟨ownS_nil _ _, HW1.out, fun k hk => by cases hk⟩, HB1.out⟩
  case round =>
    obtain ⟨k, u, hk, rfl, rfl, HI⟩ := hrel
    by_cases hlt : k < n
    · have hltz : (k : Int) < (n : Int) := by omega
      obtain ⟨ad, cap', g, hv, hst⟩ := HI.out.1.two.strs
      rw [List.length_map, HN.out] at hv hst
      injection hv with hv1 _ hv3
      subst hv1 hv3
      obtain ⟨ha, _⟩ := hst.lies (by omega)
      subst ha
      have hcell : ∀ j x, ss[j]? = some x → wr.cell? ⟨g, j, none⟩ = some (.string (bs x)) := fun j x hj => by
        have := hst.cells j (bs x) (by rw [List.getElem?_map, hj]; rfl)
        rw [Nat.zero_add] at this
        exact this
      obtain ⟨x, hx⟩ : ∃ x, ss[k]? = some x := ⟨ss[k]'(by have := HN.out; omega), List.getElem?_eq_getElem _⟩
      have c1 := hcell k x hx
      have HX : Hid (ss[k]? = some x) := hx
      obtain ⟨X, HXX⟩ : ∃ X, Hid (bs x = X) := ⟨_, rfl⟩
      rw [HXX.out] at c1
      obtain ⟨nu, HNU⟩ : ∃ m, Hid ((keptK ss k).length = m) := ⟨_, rfl⟩
      have hnu : nu ≤ k := by rw [← HNU.out]; exact kept_le ss k
      cases k with
      | zero =>
        have HK : Hid (keptK ss (0 + 1) = keptK ss 0 ++ [X]) := by rw [← HXX.out]; exact kept_first ss x HX.out
        clear hst hcell hx
        go_wp2_with (at_builtin; refine wp_app2 rfl _ _ rfl B wr u (.slice (some ⟨g, 0, none⟩) n cap) _ _ nu rfl HI.out.1 HNU.out (by omega) (Nat.le_trans hB HI.out.2.size) X rfl ?_; intro g4 cap4 w4 hown4 hb4 hk4; have HW4 : Hid (Two w4 B (.slice (some ⟨g4, 0, none⟩) (nu + 1) cap4) (.slice (some ⟨g, 0, none⟩) n cap) (keptK ss 0 ++ [X]) (ss.map bs) ∧ Below B w w4) := ⟨hown4, HI.out.2.trans hb4⟩; clear hown4 hb4 hk4)
        go_roundw
        case rel => exact ⟨0 + 1, _, by omega, rfl, by go_num, by rw [HK.out]; exact HW4⟩
        case measure => simp [intOf]; omega
      | succ j =>
        obtain ⟨y, hy⟩ : ∃ y, ss[j]? = some y := ⟨ss[j]'(by have := HN.out; omega), List.getElem?_eq_getElem _⟩
        have c2 := hcell j y hy
        have HY : Hid (ss[j]? = some y) := hy
        obtain ⟨Y, HYY⟩ : ∃ Y, Hid (bs y = Y) := ⟨_, rfl⟩
        rw [HYY.out] at c2
        clear hst hcell hx hy
        by_cases hxy : x = y
        · have HK : Hid (keptK ss (j + 2) = keptK ss (j + 1)) := kept_same ss j x HX.out (by rw [hxy]; exact HY.out)
          obtain rfl : X = Y := by rw [← HXX.out, ← HYY.out, hxy]
          go_wp2
          go_roundw
          case rel => exact ⟨j + 1 + 1, _, by omega, rfl, by go_num, by rw [HK.out]; exact HI⟩
          case measure => simp [intOf]; omega
        · have HK : Hid (keptK ss (j + 2) = keptK ss (j + 1) ++ [X]) := by rw [← HXX.out]; exact kept_next ss j x y HX.out HY.out hxy
          have hne : (X.toList == Y.toList) = false := by rw [← HXX.out, ← HYY.out]; exact bs_ne hxy
          go_wp2_with (at_builtin; refine wp_app2 rfl _ _ rfl B wr u (.slice (some ⟨g, 0, none⟩) n cap) _ _ nu rfl HI.out.1 HNU.out (by omega) (Nat.le_trans hB HI.out.2.size) X rfl ?_; intro g4 cap4 w4 hown4 hb4 hk4; have HW4 : Hid (Two w4 B (.slice (some ⟨g4, 0, none⟩) (nu + 1) cap4) (.slice (some ⟨g, 0, none⟩) n cap) (keptK ss (j + 1) ++ [X]) (ss.map bs) ∧ Below B w w4) := ⟨hown4, HI.out.2.trans hb4⟩; clear hown4 hb4 hk4)
          go_roundw
          case rel => exact ⟨j + 1 + 1, _, by omega, rfl, by go_num, by rw [HK.out]; exact HW4⟩
          case measure => simp [intOf]; omega
    · have hltz : ¬ (k : Int) < (n : Int) := by omega
      obtain rfl : k = n := by omega
      go_wp2
      go_ret
      refine ⟨⟨_, rfl, ?_⟩, HI.out.2⟩
      rw [HSS.out, ← kept_all, HN.out]
      exact HI.out.1.one
end Go.Proofs.YtbhnaekkjpcafaaDoor
