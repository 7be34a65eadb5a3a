/- The scheme that a challenge's sums are of, by the program. -/
import Derived.Test.YtooaiamfbmjmnaaGreatDoorKnD
namespace Go.Proofs.YtooaiamfbmjmnaaGreatDoor
open Go.RowKit

set_option maxHeartbeats 1000000 in
theorem isWord_any (v word : ByteArray) (hv : v.size ≤ 4000) (hw : word.size ≤ 4000) (c : Nat) (w : World) (hc : w.cell? ⟨c, 0, none⟩ = some (.string v)) :
    Calls Tryz.prog 104 #[.string word, .pointer (some ⟨c, 0, none⟩)] w fun e w' => e = .returned (.bool (sameL v.data.toList word.data.toList)) ∧ Below w.heap.size w w' := by
  go_enter Tryz.func104, Tryz.ntmps104
  go_wp2_with fail
  refine (same_any _ _ hv hw _).mono ?_
  rintro e w2 ⟨rfl, hb2⟩
  go_wp2
  go_ret
  exact ⟨rfl, hb2⟩
theorem few_get {ps : List Par} {n : List UInt8} {v : ByteArray} (hf : Few ps) (h : getL ps n = some v) : v.size ≤ 3000 := by
  unfold getL at h
  obtain ⟨p, hp, rfl⟩ := Option.map_eq_some_iff.1 h
  exact (hf.2 p (List.mem_of_find?_eq_some hp)).2
set_option maxRecDepth 100000 in
set_option maxHeartbeats 2000000 in
theorem algorithm_any (c : ChV) (hf : Few c.x.params) (w : World) (hx : ChOk w c) :
    Calls Tryz.prog 70 #[.agg #[.string c.x.scheme, .string c.x.token, .slice c.a c.len c.cap]] w fun e w' => e = .returned (.tuple #[.int .i64 ((algoL (getL c.x.params kAlgo)).1 : Int), .bool (algoL (getL c.x.params kAlgo)).2]) ∧ Below w.heap.size w w' := by
  have hb1 : Below w.heap.size w (w.alloc (.cells #[.string c.x.scheme, .string c.x.token, .slice c.a c.len c.cap] 24)) := (Below.refl _ _).alloc (Nat.le_refl _) _
  have HX : Hid (ChOk (w.alloc (.cells #[.string c.x.scheme, .string c.x.token, .slice c.a c.len c.cap] 24)) c) := hx.below hb1
  have HF : Hid (Few c.x.params) := hf
  have hget := get_any c ⟨#[97, 108, 103, 111, 114, 105, 116, 104, 109]⟩ hf (by decide) _ HX.out
  have hen := enters_at Tryz.func104 (by kernel_rfl) rfl
  clear hx hf
  rcases hg : getL c.x.params kAlgo with _ | v
  · have HG : Hid (getL c.x.params (⟨#[97, 108, 103, 111, 114, 105, 116, 104, 109]⟩ : ByteArray).data.toList = none) := hg
    rw [HG.out] at hget
    have hget' : Calls Tryz.prog 32 #[.agg #[.string c.x.scheme, .string c.x.token, .slice c.a c.len c.cap], .string ⟨#[97, 108, 103, 111, 114, 105, 116, 104, 109]⟩] (w.alloc (.cells #[.string c.x.scheme, .string c.x.token, .slice c.a c.len c.cap] 24)) fun e w' => e = .returned (.tuple #[.string ⟨#[]⟩, .bool false]) ∧ Below (w.alloc (.cells #[.string c.x.scheme, .string c.x.token, .slice c.a c.len c.cap] 24)).heap.size (w.alloc (.cells #[.string c.x.scheme, .string c.x.token, .slice c.a c.len c.cap] 24)) w' := hget
    clear hget hg
    go_enter Tryz.func70, Tryz.ntmps70
    go_wp2_with (go_at_call 32; refine hget'.mono ?_; rintro e w2 ⟨rfl, hb2⟩)
    go_ret2
    exact ⟨rfl, (hb1.trans (hb2.mono (by simp))).alloc (Nat.le_trans (by simp) hb2.size) _⟩
  · have hv3 : v.size ≤ 3000 := few_get HF.out hg
    have HG : Hid (getL c.x.params (⟨#[97, 108, 103, 111, 114, 105, 116, 104, 109]⟩ : ByteArray).data.toList = some v) := hg
    rw [HG.out] at hget
    have hget' : Calls Tryz.prog 32 #[.agg #[.string c.x.scheme, .string c.x.token, .slice c.a c.len c.cap], .string ⟨#[97, 108, 103, 111, 114, 105, 116, 104, 109]⟩] (w.alloc (.cells #[.string c.x.scheme, .string c.x.token, .slice c.a c.len c.cap] 24)) fun e w' => e = .returned (.tuple #[.string v, .bool true]) ∧ Below (w.alloc (.cells #[.string c.x.scheme, .string c.x.token, .slice c.a c.len c.cap] 24)).heap.size (w.alloc (.cells #[.string c.x.scheme, .string c.x.token, .slice c.a c.len c.cap] 24)) w' := hget
    clear hget hg
    obtain ⟨A, HA⟩ : ∃ A, Hid (algoL (some v) = A) := ⟨_, rfl⟩
    rw [HA.out]
    go_enter Tryz.func70, Tryz.ntmps70
    go_wp2_with (go_at_call 32; refine hget'.mono ?_; rintro e w2 ⟨rfl, hb2⟩)
    have HB3 : Hid (Below w.heap.size w (w2.alloc (.cells #[.string v] 9))) := (hb1.trans (hb2.mono (by simp))).alloc (Nat.le_trans (by simp) hb2.size) _
    have hc3 : (w2.alloc (.cells #[.string v] 9)).cell? ⟨w2.heap.size, 0, none⟩ = some (.string v) := World.cell?_alloc_mark _ _ _ _ _
    have hlt3 : w2.heap.size < (w2.alloc (.cells #[.string v] 9)).heap.size := by simp
    generalize hW3 : w2.alloc (.cells #[.string v] 9) = W3 at HB3 hc3 hlt3 ⊢
    clear hW3
    refine (isWord_any v ⟨#[77, 68, 53]⟩ (by omega) (by decide) _ _ hc3).mono ?_
    rintro e w4 ⟨rfl, hb4⟩
    have HB4 : Hid (Below w.heap.size w w4) := HB3.out.trans (hb4.mono HB3.out.size)
    have hc4 := (hb4.cell (p := ⟨w2.heap.size, 0, none⟩) hlt3).trans hc3
    have hlt4 := Nat.lt_of_lt_of_le hlt3 hb4.size
    clear hb4 hc3
    cases h4 : sameL v.data.toList (⟨#[77, 68, 53]⟩ : ByteArray).data.toList
    case true =>
      have HE : Hid (A = (2, false)) := by show _ = _; rw [← HA.out]; unfold algoL; simp only [];  rw [if_pos (show sameL v.data.toList kMd5 = true from h4)]
      go_wp2
      go_ret2
      exact ⟨by rw [HE.out]; rfl, HB4.out⟩
    case false =>
      go_wp2_with fail
      refine (isWord_any v ⟨#[77, 68, 53, 45, 115, 101, 115, 115]⟩ (by omega) (by decide) _ _ hc4).mono ?_
      rintro e w5 ⟨rfl, hb5⟩
      have HB5 : Hid (Below w.heap.size w w5) := HB4.out.trans (hb5.mono HB4.out.size)
      have hc5 := (hb5.cell (p := ⟨w2.heap.size, 0, none⟩) hlt4).trans hc4
      have hlt5 := Nat.lt_of_lt_of_le hlt4 hb5.size
      clear hb5 hc4
      cases h5 : sameL v.data.toList (⟨#[77, 68, 53, 45, 115, 101, 115, 115]⟩ : ByteArray).data.toList
      case true =>
        have HE : Hid (A = (2, true)) := by show _ = _; rw [← HA.out]; unfold algoL; simp only []; rw [if_neg (by rw [show sameL v.data.toList kMd5 = false from h4]; simp)]; rw [if_pos (show sameL v.data.toList kMd5s = true from h5)]
        go_wp2
        go_ret2
        exact ⟨by rw [HE.out]; rfl, HB5.out⟩
      case false =>
        go_wp2_with fail
        refine (isWord_any v ⟨#[83, 72, 65, 45, 50, 53, 54]⟩ (by omega) (by decide) _ _ hc5).mono ?_
        rintro e w6 ⟨rfl, hb6⟩
        have HB6 : Hid (Below w.heap.size w w6) := HB5.out.trans (hb6.mono HB5.out.size)
        have hc6 := (hb6.cell (p := ⟨w2.heap.size, 0, none⟩) hlt5).trans hc5
        have hlt6 := Nat.lt_of_lt_of_le hlt5 hb6.size
        clear hb6 hc5
        cases h6 : sameL v.data.toList (⟨#[83, 72, 65, 45, 50, 53, 54]⟩ : ByteArray).data.toList
        case true =>
          have HE : Hid (A = (3, false)) := by show _ = _; rw [← HA.out]; unfold algoL; simp only []; rw [if_neg (by rw [show sameL v.data.toList kMd5 = false from h4]; simp)]; rw [if_neg (by rw [show sameL v.data.toList kMd5s = false from h5]; simp)]; rw [if_pos (show sameL v.data.toList kSha = true from h6)]
          go_wp2
          go_ret2
          exact ⟨by rw [HE.out]; rfl, HB6.out⟩
        case false =>
          go_wp2_with fail
          refine (isWord_any v ⟨#[83, 72, 65, 45, 50, 53, 54, 45, 115, 101, 115, 115]⟩ (by omega) (by decide) _ _ hc6).mono ?_
          rintro e w7 ⟨rfl, hb7⟩
          have HB7 : Hid (Below w.heap.size w w7) := HB6.out.trans (hb7.mono HB6.out.size)
          have hc7 := (hb7.cell (p := ⟨w2.heap.size, 0, none⟩) hlt6).trans hc6
          have hlt7 := Nat.lt_of_lt_of_le hlt6 hb7.size
          clear hb7 hc6
          cases h7 : sameL v.data.toList (⟨#[83, 72, 65, 45, 50, 53, 54, 45, 115, 101, 115, 115]⟩ : ByteArray).data.toList
          case true =>
            have HE : Hid (A = (3, true)) := by show _ = _; rw [← HA.out]; unfold algoL; simp only []; rw [if_neg (by rw [show sameL v.data.toList kMd5 = false from h4]; simp)]; rw [if_neg (by rw [show sameL v.data.toList kMd5s = false from h5]; simp)]; rw [if_neg (by rw [show sameL v.data.toList kSha = false from h6]; simp)]; rw [if_pos (show sameL v.data.toList kShas = true from h7)]
            go_wp2
            go_ret2
            exact ⟨by rw [HE.out]; rfl, HB7.out⟩
          case false =>
            have HE : Hid (A = (0, false)) := by show _ = _; rw [← HA.out]; unfold algoL; simp only []; rw [if_neg (by rw [show sameL v.data.toList kMd5 = false from h4]; simp)]; rw [if_neg (by rw [show sameL v.data.toList kMd5s = false from h5]; simp)]; rw [if_neg (by rw [show sameL v.data.toList kSha = false from h6]; simp)]; rw [if_neg (by rw [show sameL v.data.toList kShas = false from h7]; simp)]
            go_wp2
            go_ret2
            exact ⟨by rw [HE.out]; rfl, HB7.out⟩
end Go.Proofs.YtooaiamfbmjmnaaGreatDoor
