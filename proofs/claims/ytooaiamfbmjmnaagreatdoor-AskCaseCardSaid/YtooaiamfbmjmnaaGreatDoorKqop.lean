/- The qop that is answered, by the program. -/
import Derived.Test.YtooaiamfbmjmnaaGreatDoorKalg
import Derived.Test.YtooaiamfbmjmnaaGreatDoorCtnC
import Derived.Test.YtooaiamfbmjmnaaGreatDoorLst
import Derived.Test.YtooaiamfbmjmnaaGreatDoorTkR
namespace Go.Proofs.YtooaiamfbmjmnaaGreatDoor
open Go.RowKit

theorem cell_lt {w : World} {c j : Nat} {v : Value} (h : w.cell? ⟨c, j, none⟩ = some v) : c < w.heap.size := by
  rcases Nat.lt_or_ge c w.heap.size with h1 | h1
  · exact h1
  · simp [World.cell?, Array.getElem?_eq_none h1] at h
set_option maxHeartbeats 1000000 in
theorem likeOne_any (x n : ByteArray) (hx : x.size ≤ 4000) (hn : n.size ≤ 4000) (c : Nat) (w : World) (hc : w.cell? ⟨c, 0, none⟩ = some (.string n)) :
    Calls Tryz.prog 108 #[.string x, .pointer (some ⟨c, 0, none⟩)] w fun e w' => e = .returned (.bool (sameL x.data.toList n.data.toList)) ∧ Below w.heap.size w w' := by
  go_enter Tryz.func108, Tryz.ntmps108
  go_wp2_with fail
  refine (same_any _ _ hx hn _).mono ?_
  rintro e w2 ⟨rfl, hb2⟩
  go_wp2
  go_ret
  exact ⟨rfl, hb2⟩
set_option maxHeartbeats 1000000 in
theorem hasWord_any (xs : List ByteArray) (hxs : ∀ x ∈ xs, x.size ≤ 4000) (n : ByteArray) (hn : n.size ≤ 4000) (a : Option Addr) (cap b off : Nat) (hl : xs.length ≤ 1000) (c : Nat) (w : World) (hc : w.cell? ⟨c, 0, none⟩ = some (.slice a xs.length cap)) (hx : Strs w a xs.length b off xs) :
    Calls Tryz.prog 106 #[.string n, .pointer (some ⟨c, 0, none⟩)] w fun e w' => e = .returned (.bool (xs.any fun x => sameL x.data.toList n.data.toList)) ∧ Below w.heap.size w w' := by
  have hcl := cell_lt hc
  have hb1 : Below w.heap.size w (w.alloc (.cells #[.string n] 9)) := (Below.refl _ _).alloc (Nat.le_refl _) _
  have HX : Hid (Strs (w.alloc (.cells #[.string n] 9)) a xs.length b off xs) := hx.below hb1
  have hn1 : (w.alloc (.cells #[.string n] 9)).cell? ⟨w.heap.size, 0, none⟩ = some (.string n) := World.cell?_alloc_mark _ _ _ _ _
  have HS : Hid (∀ w', Below (w.alloc (.cells #[.string n] 9)).heap.size (w.alloc (.cells #[.string n] 9)) w' → ∀ x ∈ xs, Calls Tryz.prog 108 #[.string x, .pointer (some ⟨w.heap.size, 0, none⟩)] w' fun e w'' => e = .returned (.bool (sameL x.data.toList n.data.toList)) ∧ Below w'.heap.size w' w'') := fun w' hb x hx => likeOne_any x n (hxs x hx) hn _ w' ((hb.cell (p := ⟨w.heap.size, 0, none⟩) (by simp)).trans hn1)
  clear hx hn1
  go_enter Tryz.func106, Tryz.ntmps106
  go_wp2_with fail
  refine (containsS_any _ _ _ xs a xs.length cap b off (by omega) _ HX.out HS.out (enters_at Tryz.func108 (by kernel_rfl) rfl)).mono ?_
  rintro e w2 ⟨rfl, hb2⟩
  go_wp2
  go_ret
  exact ⟨rfl, hb1.trans (hb2.mono (by simp))⟩
theorem any_texts (xs : List ByteArray) (n : List UInt8) : (texts xs).any (sameL · n) = xs.any fun x => sameL x.data.toList n := by unfold texts; rw [List.any_map]; rfl
theorem words_size (P : List (List UInt8)) : ∀ w ∈ wordsP P, ∃ p ∈ P, w.length ≤ p.length := by
  induction P with
  | nil => intro w hw; cases hw
  | cons p r ih =>
    intro w hw
    rw [wordsP, consW] at hw
    split at hw
    · obtain ⟨q, hq, h⟩ := ih w hw
      exact ⟨q, by simp [hq], h⟩
    · rcases List.mem_cons.1 hw with rfl | hw
      · refine ⟨p, by simp, ?_⟩
        unfold wordP
        exact Nat.le_trans (List.takeWhile_sublist _).length_le (List.dropWhile_sublist _).length_le
      · obtain ⟨q, hq, h⟩ := ih w hw
        exact ⟨q, by simp [hq], h⟩
theorem list_size {l : List UInt8} {xs : List ByteArray} (h : listP 0 (splitL 44 l) = .ok (texts xs)) : ∀ x ∈ xs, x.size ≤ l.length := by
  intro x hx
  have h1 := ((listP_ok _ _ _).1 h).2
  obtain ⟨p, hp, hl⟩ := words_size (splitL 44 l) x.data.toList (by rw [← h1]; exact List.mem_map.2 ⟨x, hx, rfl⟩)
  have := part_size 44 l p hp
  rw [len_data] at hl
  omega
theorem qop_err {v : ByteArray} {p : Nat} (h : listP 0 (splitL 44 v.data.toList) = .error p) : qopL (some v) = none := by simp only [qopL, h]
theorem qop_ok {v : ByteArray} {ws : List (List UInt8)} (h : listP 0 (splitL 44 v.data.toList) = .ok ws) : qopL (some v) = if 40 < ws.length then none else if ws.any (sameL · kAuth) then some (bs kAuth) else if ws.any (sameL · kAuthI) then some (bs kAuthI) else none := by simp only [qopL, h]
set_option maxRecDepth 100000 in
set_option maxHeartbeats 2000000 in
theorem protection_any (c : ChV) (hf : Few c.x.params) (w : World) (hx : ChOk w c) :
    Calls Tryz.prog 71 #[.agg #[.string c.x.scheme, .string c.x.token, .slice c.a c.len c.cap]] w fun e w' => e = .returned (optV (qopL (getL c.x.params kQop))) ∧ Below w.heap.size w w' := by
  have hb1 : Below w.heap.size w (w.alloc (.cells #[.string c.x.scheme, .string c.x.token, .slice c.a c.len c.cap] 24)) := (Below.refl _ _).alloc (Nat.le_refl _) _
  have HX : Hid (ChOk (w.alloc (.cells #[.string c.x.scheme, .string c.x.token, .slice c.a c.len c.cap] 24)) c) := hx.below hb1
  have HF : Hid (Few c.x.params) := hf
  have hget := get_any c ⟨#[113, 111, 112]⟩ hf (by decide) _ HX.out
  have hen := enters_at Tryz.func106 (by kernel_rfl) rfl
  clear hx hf
  rcases hg : getL c.x.params kQop with _ | v
  · have HG : Hid (getL c.x.params (⟨#[113, 111, 112]⟩ : ByteArray).data.toList = none) := hg
    rw [HG.out] at hget
    have hget' : Calls Tryz.prog 32 #[.agg #[.string c.x.scheme, .string c.x.token, .slice c.a c.len c.cap], .string ⟨#[113, 111, 112]⟩] (w.alloc (.cells #[.string c.x.scheme, .string c.x.token, .slice c.a c.len c.cap] 24)) fun e w' => e = .returned (.tuple #[.string ⟨#[]⟩, .bool false]) ∧ Below (w.alloc (.cells #[.string c.x.scheme, .string c.x.token, .slice c.a c.len c.cap] 24)).heap.size (w.alloc (.cells #[.string c.x.scheme, .string c.x.token, .slice c.a c.len c.cap] 24)) w' := hget
    clear hget hg
    go_enter Tryz.func71, Tryz.ntmps71
    go_wp2_with (go_at_call 32; refine hget'.mono ?_; rintro e w2 ⟨rfl, hb2⟩)
    go_ret2
    exact ⟨rfl, hb1.trans (hb2.mono (by simp))⟩
  · have hv3 : v.size ≤ 3000 := few_get HF.out hg
    have HG : Hid (getL c.x.params (⟨#[113, 111, 112]⟩ : ByteArray).data.toList = some v) := hg
    rw [HG.out] at hget
    have hget' : Calls Tryz.prog 32 #[.agg #[.string c.x.scheme, .string c.x.token, .slice c.a c.len c.cap], .string ⟨#[113, 111, 112]⟩] (w.alloc (.cells #[.string c.x.scheme, .string c.x.token, .slice c.a c.len c.cap] 24)) fun e w' => e = .returned (.tuple #[.string v, .bool true]) ∧ Below (w.alloc (.cells #[.string c.x.scheme, .string c.x.token, .slice c.a c.len c.cap] 24)).heap.size (w.alloc (.cells #[.string c.x.scheme, .string c.x.token, .slice c.a c.len c.cap] 24)) w' := hget
    clear hget hg
    go_enter Tryz.func71, Tryz.ntmps71
    go_wp2_with (go_at_call 32; refine hget'.mono ?_; rintro e w2 ⟨rfl, hb2⟩)
    have HB2 : Hid (Below w.heap.size w w2) := hb1.trans (hb2.mono (by simp))
    clear hget' hb1 hb2
    refine (list_any v hv3 _).mono ?_
    rintro e w3 ⟨hl, hb3⟩
    have HB3 : Hid (Below w.heap.size w w3) := HB2.out.trans (hb3.mono HB2.out.size)
    clear hb3
    rcases hl with ⟨xs, lv, h1, h2, rfl, h3⟩ | ⟨xs, h1, h2, rfl⟩ | ⟨p, g, h1, rfl, _⟩
    · obtain ⟨a, cap, g, rfl, hS⟩ := h3.strs
      have hx4 : ∀ x ∈ xs, x.size ≤ 4000 := fun x hx => by have := list_size h1 x hx; rw [len_data] at this; omega
      have HQ : Hid (qopL (some v) = if xs.any (fun x => sameL x.data.toList kAuth) then some (bs kAuth) else if xs.any (fun x => sameL x.data.toList kAuthI) then some (bs kAuthI) else none) := by
        show _ = _
        rw [qop_ok h1, if_neg (by unfold texts; rw [List.length_map]; omega), any_texts, any_texts]
      have hb4 : Below w3.heap.size w3 (w3.alloc (.cells #[.slice a xs.length cap] 32)) := (Below.refl _ _).alloc (Nat.le_refl _) _
      have hc4 : (w3.alloc (.cells #[.slice a xs.length cap] 32)).cell? ⟨w3.heap.size, 0, none⟩ = some (.slice a xs.length cap) := World.cell?_alloc_mark _ _ _ _ _
      have hl4 : w3.heap.size < (w3.alloc (.cells #[.slice a xs.length cap] 32)).heap.size := by simp
      have HS4 : Hid (Strs (w3.alloc (.cells #[.slice a xs.length cap] 32)) a xs.length g 0 xs) := hS.below hb4
      have HB4 : Hid (Below w.heap.size w (w3.alloc (.cells #[.slice a xs.length cap] 32))) := HB3.out.trans (hb4.mono HB3.out.size)
      clear h1 h3 hS hb4
      generalize hW4 : w3.alloc (.cells #[.slice a xs.length cap] 32) = W4 at hc4 hl4 HS4 HB4
      go_wp2_with fail
      clear hW4
      refine (hasWord_any xs hx4 ⟨#[97, 117, 116, 104]⟩ (by decide) a cap g 0 (by omega) _ _ hc4 HS4.out).mono ?_
      rintro e w5 ⟨rfl, hb5⟩
      have HB5 : Hid (Below w.heap.size w w5) := HB4.out.trans (hb5.mono HB4.out.size)
      have hc5 := (hb5.cell (p := ⟨w3.heap.size, 0, none⟩) hl4).trans hc4
      have HS5 : Hid (Strs w5 a xs.length g 0 xs) := HS4.out.below hb5
      clear hb5 hc4 hl4
      cases h5 : xs.any fun x => sameL x.data.toList (⟨#[97, 117, 116, 104]⟩ : ByteArray).data.toList
      · go_wp2_with fail
        refine (hasWord_any xs hx4 ⟨#[97, 117, 116, 104, 45, 105, 110, 116]⟩ (by decide) a cap g 0 (by omega) _ _ hc5 HS5.out).mono ?_
        rintro e w6 ⟨rfl, hb6⟩
        have HB6 : Hid (Below w.heap.size w w6) := HB5.out.trans (hb6.mono HB5.out.size)
        clear hb6
        cases h6 : xs.any fun x => sameL x.data.toList (⟨#[97, 117, 116, 104, 45, 105, 110, 116]⟩ : ByteArray).data.toList
        · have HA : Hid (qopL (some v) = none) := by
            show _ = _
            rw [HQ.out, if_neg (by rw [show (xs.any fun x => sameL x.data.toList kAuth) = false from h5]; simp), if_neg (by rw [show (xs.any fun x => sameL x.data.toList kAuthI) = false from h6]; simp)]
          go_wp2
          go_ret2
          exact ⟨by rw [HA.out]; rfl, HB6.out⟩
        · have HA : Hid (qopL (some v) = some (bs kAuthI)) := by
            show _ = _
            rw [HQ.out, if_neg (by rw [show (xs.any fun x => sameL x.data.toList kAuth) = false from h5]; simp), if_pos (show (xs.any fun x => sameL x.data.toList kAuthI) = true from h6)]
          go_wp2
          go_ret2
          exact ⟨by rw [HA.out]; rfl, HB6.out⟩
      · have HA : Hid (qopL (some v) = some (bs kAuth)) := by
          show _ = _
          rw [HQ.out, if_pos (show (xs.any fun x => sameL x.data.toList kAuth) = true from h5)]
        go_wp2
        go_ret2
        exact ⟨by rw [HA.out]; rfl, HB5.out⟩
    · have HA : Hid (qopL (some v) = none) := by
        show _ = _
        rw [qop_ok h1, if_pos (by unfold texts; rw [List.length_map]; exact h2)]
      go_wp2
      go_ret2
      exact ⟨by rw [HA.out]; rfl, HB3.out.alloc HB3.out.size _⟩
    · have HA : Hid (qopL (some v) = none) := qop_err h1
      go_wp2
      go_ret2
      exact ⟨by rw [HA.out]; rfl, HB3.out.alloc HB3.out.size _⟩
end Go.Proofs.YtooaiamfbmjmnaaGreatDoor
