/- The law TokenLists, walked. -/
import Derived.Test.YtapgbckpiffgnaaDoorRLst
import Derived.Test.YtapgbckpiffgnaaDoorPlc
namespace Go.Proofs.YtapgbckpiffgnaaDoor
open Go.RowKit

set_option maxRecDepth 100000 in
set_option maxHeartbeats 2000000 in
theorem sameTexts_yes (a1 a2 : Option Addr) (n c b1 o1 d b2 o2 : Nat) (xs : List ByteArray) (w : World) (hn : n ≤ 1000) (h1 : Strs w a1 n b1 o1 xs) (h2 : Strs w a2 n b2 o2 xs) :
    Calls Tryd.prog 28 #[.slice a1 n c, .slice a2 n d] w fun e w' => e = .returned (.bool true) ∧ Below w.heap.size w w' := by
  have H1 : Hid (Strs w a1 n b1 o1 xs) := h1
  have H2 : Hid (Strs w a2 n b2 o2 xs) := h2
  have hl := h1.len_eq
  clear h1 h2
  have hnn : ((n : Int) != (n : Int)) = false := by simp
  go_enter Tryd.func28, Tryd.ntmps28
  go_wp2
  go_loopw [5] (fun i wr => ∃ j : Nat, j ≤ n ∧ i = .int .i64 j ∧ ∃ q, wr = w.drewN q) (fun i _ => n - (intOf i).toNat)
  case atStart => exact ⟨0, Nat.zero_le _, rfl, 0, rfl⟩
  case round =>
    obtain ⟨j, hj, rfl, q, rfl⟩ := hrel
    by_cases hlt : j < n
    · obtain ⟨x, hx⟩ : ∃ x, xs[j]? = some x := ⟨xs[j]'(by omega), List.getElem?_eq_getElem (by omega)⟩
      obtain ⟨ha1, _⟩ := H1.out.lies (by omega)
      obtain ⟨ha2, _⟩ := H2.out.lies (by omega)
      subst ha1 ha2
      have c1 : w.cell? ⟨b1, o1 + j, none⟩ = some (.string x) := H1.out.cells j x hx
      have c2 : w.cell? ⟨b2, o2 + j, none⟩ = some (.string x) := H2.out.cells j x hx
      have hj0 : (0 : Int) ≤ (j : Int) := by omega
      have hjn : (j : Int) < (n : Int) := by omega
      have hxx : (x.toList != x.toList) = false := by simp
      clear hx
      go_wp2
      go_quiet (fail)
      go_wp2
      go_roundw
      case rel => exact ⟨j + 1, by omega, by go_num, _, rfl⟩
      case measure => simp [intOf]; omega
    · go_wp2
      go_ret
      exact ⟨rfl, ⟨rfl, rfl, rfl, Nat.le_refl _, fun _ _ => rfl⟩⟩
theorem texts_one {xs ys : List ByteArray} (h : texts xs = texts ys) : xs = ys := by
  unfold texts at h
  have : ∀ (xs ys : List ByteArray), xs.map (·.data.toList) = ys.map (·.data.toList) → xs = ys := by
    intro xs
    induction xs with
    | nil => intro ys h; cases ys with
      | nil => rfl
      | cons y t => simp at h
    | cons x r ih =>
      intro ys h
      cases ys with
      | nil => simp at h
      | cons y t =>
        simp only [List.map_cons, List.cons.injEq] at h
        have e : x = y := by rw [← bs_self x, ← bs_self y, h.1]
        rw [e, ih t h.2]
  exact this xs ys h
theorem strs_nil (w : World) : Strs w none 0 0 0 [] := ⟨rfl, fun h => absurd h (by omega), fun j x hx => by simp at hx⟩
set_option maxRecDepth 100000 in
set_option maxHeartbeats 2000000 in
theorem tokenLists_walk (s : ByteArray) (_hs : s.size ≤ 140737488355328) (w : World) (hg : ErrT w) (hM : MaxL w) :
    Calls Tryd.prog 6 #[.string s] w fun e w' => e = .returned (.bool true) ∧ Below w.heap.size w w' := by
  have HG : Hid (ErrT w) := hg
  have HM : Hid (MaxL w) := hM
  clear hg hM
  by_cases h : (300 : Int) < (s.size : Int)
  · go_enter Tryd.func6, Tryd.ntmps6
    go_wp2
    go_ret
    exact ⟨rfl, Below.refl _ _⟩
  · have h3 : s.size ≤ 300 := by omega
    clear _hs
    go_enter Tryd.func6, Tryd.ntmps6
    go_wp2_with fail
    refine (refList_any s h3 _ HM.out).mono ?_
    rintro e w1 ⟨⟨xs, v, hx, hx40, rfl, hox⟩ | ⟨xs, hx, hx40, rfl⟩ | ⟨p, hx, rfl⟩, hb1⟩
    · obtain ⟨ax, cx, gx, rfl, hsx⟩ := hox.strs
      have HX : Hid (listP 0 (splitL 44 s.data.toList) = .ok (texts xs)) := hx
      have HSX : Hid (Strs w1 ax xs.length gx 0 xs) := hsx
      have HB1 : Hid (Below w.heap.size w w1) := hb1
      clear hx hsx hox hb1
      go_wp2_with fail
      have hbA : Below w1.heap.size w1 (w1.alloc (.cells #[.int .i64 0, .int .i64 (-1)] 47)) := (Below.refl _ _).alloc (Nat.le_refl _) _
      refine (list_any s (by omega) _).mono ?_
      rintro e w2 ⟨⟨ys, vy, hy, hy40, rfl, hoy⟩ | ⟨ys, hy, hy40, rfl⟩ | ⟨q, g, hy, rfl, _⟩, hb2⟩
      · rw [HX.out] at hy
        obtain rfl := texts_one (Except.ok.inj hy)
        obtain ⟨ay, cy, gy, rfl, hsy⟩ := hoy.strs
        have HSY : Hid (Strs w2 ay xs.length gy 0 xs) := hsy
        have hz : w1.heap.size < (w1.alloc (.cells #[.int .i64 0, .int .i64 (-1)] 47)).heap.size := by simp
        have f0 : w2.cell? ⟨w1.heap.size, 0, none⟩ = some (.int .i64 0) := (hb2.cell (p := ⟨w1.heap.size, 0, none⟩) hz).trans (cells_at _ _ _ 0)
        have f1 : w2.cell? ⟨w1.heap.size, 1, none⟩ = some (.int .i64 (-1)) := (hb2.cell (p := ⟨w1.heap.size, 1, none⟩) hz).trans (cells_at _ _ _ 1)
        have HB2 : Hid (Below w.heap.size w w2) := (HB1.out.trans (hbA.mono HB1.out.size)).trans (hb2.mono (by have := HB1.out.size; simp; omega))
        have HSX2 : Hid (Strs w2 ax xs.length gx 0 xs) := (HSX.out.below hbA).below hb2
        clear hy hsy hoy hb2 hz hbA
        go_wp2_with fail
        refine (placed_nil _).mono ?_
        rintro e w3 ⟨rfl, hb3⟩
        have HB3 : Hid (Below w.heap.size w w3) := HB2.out.trans (hb3.mono HB2.out.size)
        have HSX3 : Hid (Strs w3 ax xs.length gx 0 xs) := HSX2.out.below hb3
        have HSY3 : Hid (Strs w3 ay xs.length gy 0 xs) := HSY.out.below hb3
        clear hb3 f0 f1
        go_wp2_with fail
        refine (sameTexts_yes ay ax xs.length _ gy 0 _ gx 0 xs _ (by omega) HSY3.out HSX3.out).mono ?_
        rintro e w4 ⟨rfl, hb4⟩
        go_wp2
        go_ret
        exact ⟨rfl, HB3.out.trans (hb4.mono HB3.out.size)⟩
      · rw [HX.out] at hy
        have := texts_one (Except.ok.inj hy)
        rw [← this] at hy40
        omega
      · rw [HX.out] at hy
        cases hy
    · have HX : Hid (listP 0 (splitL 44 s.data.toList) = .ok (texts xs)) := hx
      have HB1 : Hid (Below w.heap.size w w1) := hb1
      clear hx hb1
      go_wp2_with fail
      have hbA : Below w1.heap.size w1 (w1.alloc (.cells #[.int .i64 4, .int .i64 (-1)] 47)) := (Below.refl _ _).alloc (Nat.le_refl _) _
      refine (list_any s (by omega) _).mono ?_
      rintro e w2 ⟨⟨ys, vy, hy, hy40, rfl, hoy⟩ | ⟨ys, hy, hy40, rfl⟩ | ⟨q, g, hy, rfl, _⟩, hb2⟩
      · rw [HX.out] at hy
        have := texts_one (Except.ok.inj hy)
        rw [← this] at hy40
        omega
      · have hz : w1.heap.size < (w1.alloc (.cells #[.int .i64 4, .int .i64 (-1)] 47)).heap.size := by simp
        have f0 : w2.cell? ⟨w1.heap.size, 0, none⟩ = some (.int .i64 4) := (hb2.cell (p := ⟨w1.heap.size, 0, none⟩) hz).trans (cells_at _ _ _ 0)
        have f1 : w2.cell? ⟨w1.heap.size, 1, none⟩ = some (.int .i64 (-1)) := (hb2.cell (p := ⟨w1.heap.size, 1, none⟩) hz).trans (cells_at _ _ _ 1)
        have HB2 : Hid (Below w.heap.size w w2) := (HB1.out.trans (hbA.mono HB1.out.size)).trans (hb2.mono (by have := HB1.out.size; simp; omega))
        clear hy hb2 hz hbA
        go_wp2_with fail
        refine (placed_no 4 _ (HG.out.below HB2.out)).mono ?_
        rintro e w3 ⟨rfl, hb3⟩
        have HB3 : Hid (Below w.heap.size w w3) := HB2.out.trans (hb3.mono HB2.out.size)
        clear hb3 f0 f1
        go_wp2_with fail
        refine (sameTexts_yes none none 0 _ 0 0 _ 0 0 [] _ (by omega) (strs_nil _) (strs_nil _)).mono ?_
        rintro e w4 ⟨rfl, hb4⟩
        go_wp2
        go_ret
        exact ⟨rfl, HB3.out.trans (hb4.mono HB3.out.size)⟩
      · rw [HX.out] at hy
        cases hy
    · have HX : Hid (listP 0 (splitL 44 s.data.toList) = .error p) := hx
      have HB1 : Hid (Below w.heap.size w w1) := hb1
      clear hx hb1
      go_wp2_with fail
      have hbA : Below w1.heap.size w1 (w1.alloc (.cells #[.int .i64 3, .int .i64 (p : Int)] 47)) := (Below.refl _ _).alloc (Nat.le_refl _) _
      refine (list_any s (by omega) _).mono ?_
      rintro e w2 ⟨⟨ys, vy, hy, hy40, rfl, hoy⟩ | ⟨ys, hy, hy40, rfl⟩ | ⟨q, g, hy, rfl, hc0, hc1, hgl⟩, hb2⟩
      · rw [HX.out] at hy
        cases hy
      · rw [HX.out] at hy
        cases hy
      · rw [HX.out] at hy
        cases hy
        have hz : w1.heap.size < (w1.alloc (.cells #[.int .i64 3, .int .i64 (p : Int)] 47)).heap.size := by simp
        have f0 : w2.cell? ⟨w1.heap.size, 0, none⟩ = some (.int .i64 3) := (hb2.cell (p := ⟨w1.heap.size, 0, none⟩) hz).trans (cells_at _ _ _ 0)
        have f1 : w2.cell? ⟨w1.heap.size, 1, none⟩ = some (.int .i64 (p : Int)) := (hb2.cell (p := ⟨w1.heap.size, 1, none⟩) hz).trans (cells_at _ _ _ 1)
        have HB2 : Hid (Below w.heap.size w w2) := (HB1.out.trans (hbA.mono HB1.out.size)).trans (hb2.mono (by have := HB1.out.size; simp; omega))
        have hg2 : g < w2.heap.size := by
          rcases Nat.lt_or_ge g w2.heap.size with h | h
          · exact h
          · simp [World.cell?, Array.getElem?_eq_none h] at hc0
        have HC0 : Hid (w2.cell? ⟨g, 0, none⟩ = some (.int .i64 3)) := hc0
        have HC1 : Hid (w2.cell? ⟨g, 1, none⟩ = some (.int .i64 (p : Int))) := hc1
        clear hb2 hz hbA hc0 hc1 hgl
        go_wp2_with fail
        refine (placed_at g 3 (p : Int) _ (HG.out.below HB2.out) HC0.out HC1.out hg2).mono ?_
        rintro e w3 ⟨rfl, hb3⟩
        have HB3 : Hid (Below w.heap.size w w3) := HB2.out.trans (hb3.mono HB2.out.size)
        clear hb3 f0 f1
        go_wp2_with fail
        refine (sameTexts_yes none none 0 _ 0 0 _ 0 0 [] _ (by omega) (strs_nil _) (strs_nil _)).mono ?_
        rintro e w4 ⟨rfl, hb4⟩
        go_wp2
        go_ret
        exact ⟨rfl, HB3.out.trans (hb4.mono HB3.out.size)⟩
end Go.Proofs.YtapgbckpiffgnaaDoor
