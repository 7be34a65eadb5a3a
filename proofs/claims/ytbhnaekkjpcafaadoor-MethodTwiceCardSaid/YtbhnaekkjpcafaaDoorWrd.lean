/- The fact of words, lists and texts between marks, by the program. -/
import Derived.Test.YtbhnaekkjpcafaaDoorLst
import Derived.Test.YtbhnaekkjpcafaaDoorQtd
import Derived.Test.YtbhnaekkjpcafaaDoorQt
import Derived.Test.YtbhnaekkjpcafaaDoorEqs
import Derived.Test.YtbhnaekkjpcafaaDoorSam
namespace Go.Proofs.YtbhnaekkjpcafaaDoor
open Go.RowKit Go.Shelf

theorem strs_two (w : World) (x y : ByteArray) : Strs (w.alloc (.cells #[.string x, .string y] 9)) (some ⟨w.heap.size, 0, none⟩) 2 w.heap.size 0 [x, y] := by
  refine ⟨rfl, fun _ => ⟨rfl, by simp⟩, fun j z hz => ?_⟩
  rw [cells_at]
  match j, hz with
  | 0, hz => cases hz; rfl
  | 1, hz => cases hz; rfl
  | j + 2, hz => simp at hz
theorem texts_ab {xs : List ByteArray} (h : texts xs = [[97], [98]]) : xs = [⟨#[97]⟩, ⟨#[98]⟩] := by
  unfold texts at h
  match xs, h with
  | [], h => simp at h
  | [x], h => simp at h
  | x :: y :: z :: r, h => simp at h
  | [x, y], h =>
    simp only [List.map_cons, List.map_nil, List.cons.injEq, and_true] at h
    have e1 : x = bs [97] := by rw [← h.1, bs_self]
    have e2 : y = bs [98] := by rw [← h.2, bs_self]
    rw [e1, e2]
    rfl
theorem list_ab : listP 0 (splitL 44 (⟨#[32, 97, 32, 44, 32, 44, 98, 9]⟩ : ByteArray).data.toList) = .ok [[97], [98]] := by rfl
theorem quote_ab : quoteO (⟨#[97, 34, 98]⟩ : ByteArray).data.toList = some (quoteL (⟨#[97, 34, 98]⟩ : ByteArray).data.toList) := by decide
theorem quote_ab2 : bs (quoteL (⟨#[97, 34, 98]⟩ : ByteArray).data.toList) = ⟨#[34, 97, 92, 34, 98, 34]⟩ := by rfl
theorem quoted_xy : quotedL ((⟨#[34, 120, 92, 121, 34, 122]⟩ : ByteArray).data.toList.drop 0) = some ([120, 121], 5) := by decide
theorem same_ab : sameL (⟨#[97, 66]⟩ : ByteArray).data.toList (⟨#[65, 98]⟩ : ByteArray).data.toList = true := by decide
theorem is_x1 : isL (⟨#[120, 45, 49]⟩ : ByteArray).data.toList = true := by decide
set_option maxRecDepth 100000 in
set_option maxHeartbeats 2000000 in
theorem worded_any (w : World) : Calls Tryd.prog 19 #[] w fun e w' => e = .returned (.bool true) ∧ Below w.heap.size w w' := by
  go_enter Tryd.func19, Tryd.ntmps19
  go_wp2_with fail
  refine (list_any ⟨#[32, 97, 32, 44, 32, 44, 98, 9]⟩ (by decide) _).mono ?_
  rintro e w1 ⟨⟨xs, v, hx, _, rfl, hown⟩ | ⟨xs, hx, hl, _⟩ | ⟨p, g, hx, _⟩, hb1⟩
  · rw [list_ab] at hx
    obtain rfl := texts_ab (Except.ok.inj hx).symm
    obtain ⟨a, cap, g, rfl, hs⟩ := hown.strs
    have HS : Hid (Strs w1 a 2 g 0 [⟨#[97]⟩, ⟨#[98]⟩]) := hs
    clear hs hx hown
    go_wp2_with fail
    refine (quote_yes ⟨#[97, 34, 98]⟩ (by decide) quote_ab _).mono ?_
    rintro e w2 ⟨rfl, hb2⟩
    rw [quote_ab2]
    go_wp2_with fail
    refine (on_any ⟨#[34, 120, 92, 121, 34, 122]⟩ _).mono ?_
    rintro e w3 ⟨rfl, hc3, hb3, hz3⟩
    have HC3 : Hid (Cur w3 w2.heap.size ⟨#[34, 120, 92, 121, 34, 122]⟩ 0) := hc3
    clear hc3
    go_wp2_with fail
    refine (quoted_any w2.heap.size ⟨#[34, 120, 92, 121, 34, 122]⟩ (by decide) 0 _ HC3.out).mono ?_
    rintro e w4 (⟨t, n, hq, rfl, hc4, hg4⟩ | ⟨hq, _⟩)
    · rw [quoted_xy] at hq
      cases hq
      have HC4 : Hid (Cur w4 w2.heap.size ⟨#[34, 120, 92, 121, 34, 122]⟩ 5) := hc4
      have s1 := hb1.size
      have s2 := hb2.size
      have s3 := hb3.size
      have hb4 : Below w.heap.size w w4 := ((hb1.trans (hb2.mono (by omega))).trans (hb3.mono (by omega))).grown hg4 (by omega) (fun i hi => by injection hi with hi; omega)
      have hs4 : Strs w4 a 2 g 0 [⟨#[97]⟩, ⟨#[98]⟩] := by
        have h3 := (HS.out.below hb2).below hb3
        refine ⟨h3.len_eq, fun h0 => ⟨(h3.lies h0).1, Nat.lt_of_lt_of_le (h3.lies h0).2 hg4.size⟩, fun j x hx => hg4.cell (h3.cells j x hx) ?_⟩
        intro e
        have e2 : g = w2.heap.size := Option.some.inj e
        have := ((HS.out.below hb2).lies (by omega)).2
        omega
      have HS4 : Hid (Strs w4 a 2 g 0 [⟨#[97]⟩, ⟨#[98]⟩]) := hs4
      clear hs4 hc4 hg4 HS HC3 hb1 hb2 hb3 s1 s2 s3 hz3
      have ht : bs [120, 121] = ⟨#[120, 121]⟩ := rfl
      rw [ht]
      go_wp2_with fail
      refine (equal_same a (some ⟨w4.heap.size, 0, none⟩) 2 _ g 0 2 w4.heap.size 0 [⟨#[97]⟩, ⟨#[98]⟩] _ (by omega) (HS4.out.below ((Below.refl _ _).alloc (Nat.le_refl _) _)) (strs_two w4 _ _)).mono ?_
      rintro e w5 ⟨rfl, q, rfl⟩
      go_wp2_with fail
      refine (at_any w2.heap.size ⟨#[34, 120, 92, 121, 34, 122]⟩ 5 _ ((HC4.out.below ((Below.refl _ _).alloc (Nat.le_refl _) _)).drewN q)).mono ?_
      rintro e w6 ⟨rfl, rfl⟩
      go_wp2_with fail
      refine (same_any ⟨#[97, 66]⟩ ⟨#[65, 98]⟩ (by decide) (by decide) _).mono ?_
      rintro e w7 ⟨rfl, hb7⟩
      rw [same_ab]
      go_wp2_with fail
      refine (is_any ⟨#[120, 45, 49]⟩ (by decide) _).mono ?_
      rintro e w8 ⟨rfl, rfl⟩
      rw [is_x1]
      go_wp2
      go_ret
      refine ⟨rfl, ?_⟩
      have z4 := hb4.size
      exact (drewN_at (hb4.alloc z4 _) q).trans (hb7.mono (by show w.heap.size ≤ (w4.alloc _).heap.size; simp; omega))
    · rw [quoted_xy] at hq
      cases hq
  · rw [list_ab] at hx
    have := congrArg List.length (Except.ok.inj hx)
    simp [texts] at this
    omega
  · rw [list_ab] at hx
    cases hx
end Go.Proofs.YtbhnaekkjpcafaaDoor
