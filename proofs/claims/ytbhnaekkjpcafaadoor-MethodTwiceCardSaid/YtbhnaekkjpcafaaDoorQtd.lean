/- The text between marks at a cursor, by the program. -/
import Derived.Test.YtbhnaekkjpcafaaDoorUnq
import Derived.Test.YtbhnaekkjpcafaaDoorTkQ
namespace Go.Proofs.YtbhnaekkjpcafaaDoor
open Go.RowKit

theorem quotedL_end (s : ByteArray) : quotedL (s.data.toList.drop s.size) = none := by
  rw [List.drop_of_length_le (by rw [len_data]; exact Nat.le_refl _)]
  rfl
theorem quotedL_other (s : ByteArray) (k : Nat) (hk : k < s.size) (h : s[k] ≠ 34) : quotedL (s.data.toList.drop k) = none := by
  rw [drop_at s k hk _ rfl, quotedL, if_neg h]
theorem quotedL_mark (s : ByteArray) (k : Nat) (hk : k < s.size) (h : s[k] = 34) : quotedL (s.data.toList.drop k) = (unqL false (s.data.toList.drop (k + 1))).map fun x => (x.1, x.2 + 1) := by
  rw [drop_at s k hk 34 h, quotedL, if_pos rfl]
def QtdAns (b : Nat) (s : ByteArray) (k : Nat) (w : World) (e : Ending) (w' : World) : Prop :=
  (∃ (t : List UInt8) (n : Nat), quotedL (s.data.toList.drop k) = some (t, n) ∧ e = .returned (.tuple #[.string (bs t), .bool true]) ∧ Cur w' b s (k + n) ∧ w.grownBy w' (some b)) ∨
  (quotedL (s.data.toList.drop k) = none ∧ e = .returned (.tuple #[.string ⟨#[]⟩, .bool false]) ∧ Cur w' b s k ∧ w.grownBy w' (some b))
theorem qtd_none (b : Nat) (s : ByteArray) (k : Nat) (h : quotedL (s.data.toList.drop k) = none) (w : World) (hc : Cur w b s k)
    (hm : Calls Tryd.prog 78 #[.pointer (some ⟨b, 0, none⟩), .int .u8 34] w fun e w' => e = .returned (.bool false) ∧ ∃ n, w' = w.drewN n) :
    Calls Tryd.prog 45 #[.pointer (some ⟨b, 0, none⟩)] w (QtdAns b s k w) := by
  have HC : Hid (Cur w b s k) := hc
  have HA : Hid (quotedL (s.data.toList.drop k) = none) := h
  clear h
  obtain ⟨h1, h2, h3, h4⟩ := hc
  go_enter Tryd.func45, Tryd.ntmps45
  go_wp2_with (go_at_call 78; refine hm.mono ?_; rintro e w' ⟨rfl, n, hw⟩; obtain rfl := hw)
  go_ret2
  exact .inr ⟨HA, rfl, (HC.out.drewN _).set _ h4 _ rfl, grown_trans (grown_drewN w _ _) (grown_set _ _ _ _)⟩
theorem keepC {w W W' : World} {b : Nat} {s : ByteArray} {k : Nat} {x : Int} (h : W.cell? ⟨b, 0, none⟩ = some (.string s) ∧ W.cell? ⟨b, 1, none⟩ = some (.int .i64 x) ∧ Hid (Cur W b s k ∧ w.grownBy W (some b))) (hb : Below W.heap.size W W') :
    W'.cell? ⟨b, 0, none⟩ = some (.string s) ∧ W'.cell? ⟨b, 1, none⟩ = some (.int .i64 x) ∧ Hid (Cur W' b s k ∧ w.grownBy W' (some b)) := by
  obtain ⟨h1, h2, h3⟩ := h
  have hlt := h3.out.1.lt
  exact ⟨(hb.cell (p := ⟨b, 0, none⟩) hlt).trans h1, (hb.cell (p := ⟨b, 1, none⟩) hlt).trans h2, h3.out.1.below hb, grown_trans h3.out.2 (grown_below hb _)⟩
set_option maxRecDepth 100000 in
set_option maxHeartbeats 2000000 in
theorem quoted_any (b : Nat) (s : ByteArray) (hs : s.size ≤ 5000) (k : Nat) (w : World) (hc : Cur w b s k) :
    Calls Tryd.prog 45 #[.pointer (some ⟨b, 0, none⟩)] w (QtdAns b s k w) := by
  by_cases hk : k < s.size
  · by_cases h34 : s[k] = 34
    · have HC : Hid (Cur w b s k) := hc
      have HQ : Hid (quotedL (s.data.toList.drop k) = (unqL false (s.data.toList.drop (k + 1))).map fun x => (x.1, x.2 + 1)) := quotedL_mark s k hk h34
      have hm := mark_yes b s hs k hk 34 h34 w hc
      obtain ⟨r, HR⟩ : ∃ r : ByteArray, Hid (s.extract (k + 1) s.size = r) := ⟨_, rfl⟩
      have hr : r.size ≤ 5000 := by rw [← HR.out, rest_size]; omega
      have HD : Hid (r.data.toList = s.data.toList.drop (k + 1)) := by show _ = _; rw [← HR.out, from_data]
      obtain ⟨h1, h2, h3, h4⟩ := hc
      clear h34
      obtain ⟨p, hp⟩ : ∃ p : Nat, k + 1 = p := ⟨_, rfl⟩
      have HP : Hid (k + 1 = p) := hp
      have hp0 : (0 : Int) ≤ (p : Int) := by omega
      have hpS : (p : Int) ≤ (s.size : Int) := by omega
      rw [hp] at HR HD HQ hm
      clear hp
      rcases hu : unqL false r.data.toList with _ | ⟨t, n⟩
      · have hU : ∀ w, Calls Tryd.prog 81 #[.string r] w fun e w' => e = .returned (.tuple #[.string ⟨#[]⟩, .int .i64 0, .bool false]) ∧ Below w.heap.size w w' := fun w => by
          refine (unquote_any r hr w).mono ?_
          rintro e w' ⟨⟨t, n, h, _⟩ | ⟨_, rfl⟩, hb⟩
          · rw [hu] at h; cases h
          · exact ⟨rfl, hb⟩
        have HA : Hid (quotedL (s.data.toList.drop k) = none) := by show _ = _; rw [HQ.out, ← HD.out, hu]; rfl
        clear hu
        go_enter Tryd.func45, Tryd.ntmps45
        go_wp2_with (go_at_call 78; refine hm.mono ?_; rintro e w1 ⟨rfl, hc1, hg1⟩)
        have hQ : w1.drew.cell? ⟨b, 0, none⟩ = some (.string s) ∧ w1.drew.cell? ⟨b, 1, none⟩ = some (.int .i64 (p : Int)) ∧ Hid (Cur w1.drew b s p ∧ w.grownBy w1.drew (some b)) :=
          ⟨hc1.text, hc1.place, hc1.drew, ⟨hg1.os, hg1.tape, hg1.output, hg1.size, hg1.block⟩⟩
        go_region_held3 (fun W => W.cell? ⟨b, 0, none⟩ = some (.string s) ∧ W.cell? ⟨b, 1, none⟩ = some (.int .i64 (p : Int)) ∧ Hid (Cur W b s p ∧ w.grownBy W (some b))) (first | assumption | exact hQ) (
          (go_at_call 81; rw [HR.out]; refine (hU _).mono ?_; rintro e w3 ⟨rfl, hb3⟩; have hQ3 := keepC (by assumption) hb3))
        obtain ⟨q1, q2, q3⟩ := hQ3
        have q4 := q3.out.1.free
        go_wp2
        go_ret2
        exact .inr ⟨HA, rfl, q3.out.1.set _ h4 _ rfl, grown_trans q3.out.2 (grown_set _ _ _ _)⟩
      · have hU : ∀ w, Calls Tryd.prog 81 #[.string r] w fun e w' => e = .returned (.tuple #[.string (bs t), .int .i64 (n : Int), .bool true]) ∧ Below w.heap.size w w' := fun w => by
          refine (unquote_any r hr w).mono ?_
          rintro e w' ⟨⟨t', n', h, rfl⟩ | ⟨h, _⟩, hb⟩
          · rw [hu] at h; cases h; exact ⟨rfl, hb⟩
          · rw [hu] at h; cases h
        have HA : Hid (quotedL (s.data.toList.drop k) = some (t, n + 1)) := by show _ = _; rw [HQ.out, ← HD.out, hu]; rfl
        have hn : p + n ≤ s.size := by
          have := (unq_size _ _ _ _ hu).2
          rw [HD.out, List.length_drop, len_data] at this
          omega
        clear hu
        obtain ⟨x, HX⟩ : ∃ x : ByteArray, Hid (bs t = x) := ⟨_, rfl⟩
        rw [HX.out] at hU
        go_enter Tryd.func45, Tryd.ntmps45
        go_wp2_with (go_at_call 78; refine hm.mono ?_; rintro e w1 ⟨rfl, hc1, hg1⟩)
        have hQ : w1.drew.cell? ⟨b, 0, none⟩ = some (.string s) ∧ w1.drew.cell? ⟨b, 1, none⟩ = some (.int .i64 (p : Int)) ∧ Hid (Cur w1.drew b s p ∧ w.grownBy w1.drew (some b)) :=
          ⟨hc1.text, hc1.place, hc1.drew, ⟨hg1.os, hg1.tape, hg1.output, hg1.size, hg1.block⟩⟩
        go_region_held3 (fun W => W.cell? ⟨b, 0, none⟩ = some (.string s) ∧ W.cell? ⟨b, 1, none⟩ = some (.int .i64 (p : Int)) ∧ Hid (Cur W b s p ∧ w.grownBy W (some b))) (first | assumption | exact hQ) (
          (go_at_call 81; rw [HR.out]; refine (hU _).mono ?_; rintro e w3 ⟨rfl, hb3⟩; have hQ3 := keepC (by assumption) hb3))
        obtain ⟨q1, q2, q3⟩ := hQ3
        have q4 := q3.out.1.free
        go_wp2
        go_ret2
        exact .inl ⟨t, n + 1, HA, by rw [HX.out]; rfl, by rw [show k + (n + 1) = p + n by have := HP.out; omega]; exact q3.out.1.set _ hn _ (by push_cast; rfl), grown_trans q3.out.2 (grown_set _ _ _ _)⟩
    · exact qtd_none b s k (quotedL_other s k hk h34) w hc (mark_other b s k hk 34 h34 w hc)
  · obtain rfl : k = s.size := by have := hc.le; omega
    exact qtd_none b s s.size (quotedL_end s) w hc (mark_end b s 34 w hc)
end Go.Proofs.YtbhnaekkjpcafaaDoor
