/- The value of a parameter, by the program. -/
import Derived.Test.YtooaiamfbmjmnaaGreatDoorPrm
import Derived.Test.YtooaiamfbmjmnaaGreatDoorChlA
import Derived.Test.YtooaiamfbmjmnaaGreatDoorClo
import Derived.Deep.QuietTactic
import Derived.BigQuiet
namespace Go.Proofs.YtooaiamfbmjmnaaGreatDoor
open Go.RowKit

/-- The value of a parameter. -/
def getL (ps : List Par) (n : List UInt8) : Option ByteArray := (ps.find? fun p => sameL p.1.data.toList n).map (·.2)
/-- Names and values that are not too long. -/
def Few (ps : List Par) : Prop := ps.length ≤ 1000000 ∧ ∀ p ∈ ps, p.1.size ≤ 3000 ∧ p.2.size ≤ 3000
set_option maxHeartbeats 1000000 in
theorem get_none (c : ChV) (n : ByteArray) (hf : Few c.x.params) (hn : n.size ≤ 3000) (w : World) (hx : ChOk w c) (hg : getL c.x.params n.data.toList = none) :
    Calls Tryz.prog 32 #[.agg #[.string c.x.scheme, .string c.x.token, .slice c.a c.len c.cap], .string n] w fun e w' => e = .returned (.tuple #[.string ⟨#[]⟩, .bool false]) ∧ Below w.heap.size w w' := by
  have hb1 : Below w.heap.size w (w.alloc (.cells #[.string c.x.scheme, .string c.x.token, .slice c.a c.len c.cap] 24)) := (Below.refl _ _).alloc (Nat.le_refl _) _
  have HX : Hid (ChOk (w.alloc (.cells #[.string c.x.scheme, .string c.x.token, .slice c.a c.len c.cap] 24)) c) := hx.below hb1
  have HF : Hid (Few c.x.params) := hf
  have HG : Hid (c.x.params.find? (fun p => sameL p.1.data.toList n.data.toList) = none) := by
    have := hg
    unfold getL at this
    exact Option.map_eq_none_iff.1 this
  clear hx hf hg
  go_enter Tryz.func32, Tryz.ntmps32
  go_wp2_with fail
  refine (find_any c.x.params n (fun p hp => Nat.le_trans (HF.out.2 p hp).1 (by omega)) (by omega) c.a c.len c.cap c.b c.off HF.out.1 _ HX.out).mono ?_
  rintro e w2 ⟨⟨r, rfl, HR⟩, hb2⟩
  have hr : r = -1 := by
    rcases HR.out with ⟨h, _⟩ | ⟨k, p, _, _, h⟩
    · exact h
    · rw [HG.out] at h; cases h
  subst hr
  go_wp2
  go_ret2
  exact ⟨rfl, hb1.trans (hb2.mono (by simp))⟩
set_option maxHeartbeats 1000000 in
theorem get_some (c : ChV) (n v : ByteArray) (hf : Few c.x.params) (hn : n.size ≤ 3000) (w : World) (hx : ChOk w c) (hg : getL c.x.params n.data.toList = some v) :
    Calls Tryz.prog 32 #[.agg #[.string c.x.scheme, .string c.x.token, .slice c.a c.len c.cap], .string n] w fun e w' => e = .returned (.tuple #[.string v, .bool true]) ∧ Below w.heap.size w w' := by
  have hb1 : Below w.heap.size w (w.alloc (.cells #[.string c.x.scheme, .string c.x.token, .slice c.a c.len c.cap] 24)) := (Below.refl _ _).alloc (Nat.le_refl _) _
  have HX : Hid (ChOk (w.alloc (.cells #[.string c.x.scheme, .string c.x.token, .slice c.a c.len c.cap] 24)) c) := hx.below hb1
  have HF : Hid (Few c.x.params) := hf
  have HG : Hid (∃ p, c.x.params.find? (fun p => sameL p.1.data.toList n.data.toList) = some p ∧ p.2 = v) := by
    have := hg
    unfold getL at this
    exact Option.map_eq_some_iff.1 this
  clear hx hf hg
  go_enter Tryz.func32, Tryz.ntmps32
  go_wp2_with fail
  refine (find_any c.x.params n (fun p hp => Nat.le_trans (HF.out.2 p hp).1 (by omega)) (by omega) c.a c.len c.cap c.b c.off HF.out.1 _ HX.out).mono ?_
  rintro e w2 ⟨⟨r, rfl, HR⟩, hb2⟩
  obtain ⟨k, hr, hk, hcell, hkl, hvz, hlies⟩ : ∃ k : Nat, r = k ∧ k < c.len ∧ w2.cell? ⟨c.b, c.off + k * 2 + 1, none⟩ = some (.string v) ∧ c.len ≤ 1000000 ∧ v.size ≤ 3000 ∧ c.a = some ⟨c.b, c.off, none⟩ := by
    obtain ⟨q, hq, hqv⟩ := HG.out
    rcases HR.out with ⟨_, h⟩ | ⟨k, p, hr, hk, h⟩
    · rw [hq] at h; cases h
    · rw [hq] at h
      cases h
      have hkl := (List.getElem?_eq_some_iff.1 hk).1
      have h2 := HX.out.below hb2
      refine ⟨k, hr, hkl, ?_, HF.out.1, ?_, ?_⟩
      · rw [← hqv]; exact h2.two k _ hk
      · rw [← hqv]; exact (HF.out.2 _ (List.mem_of_getElem? hk)).2
      · exact (h2.lies (by show 0 < c.len; unfold ChV.len; omega)).1
  subst hr
  have hbx : w2.cell? ⟨w.heap.size, 2, none⟩ = some (.slice c.a c.len c.cap) := (hb2.cell (p := ⟨w.heap.size, 2, none⟩) (by simp)).trans (World.cell?_alloc_mark _ _ _ _ _)
  rw [hlies] at hbx
  have hk0 : (k : Int) < (c.len : Int) := by omega
  have hkn : ¬ (k : Int) < 0 := by omega
  go_wp2_with (go_at_call 69; refine (clone_any v hvz _).mono ?_; rintro e w3 ⟨rfl, hb3⟩)
  go_ret2
  exact ⟨rfl, (hb1.trans (hb2.mono (by simp))).trans (hb3.mono (Nat.le_trans (by simp) hb2.size))⟩
theorem getL_none {ps : List Par} {n : List UInt8} (h : ps.find? (fun p => sameL p.1.data.toList n) = none) : getL ps n = none := by unfold getL; rw [h]; rfl
theorem getL_some {ps : List Par} {n : List UInt8} {p : Par} (h : ps.find? (fun p => sameL p.1.data.toList n) = some p) : getL ps n = some p.2 := by unfold getL; rw [h]; rfl
/-- What is answered where a parameter may be there, or not. -/
def optV (o : Option ByteArray) : Value := .tuple #[.string (o.getD ⟨#[]⟩), .bool o.isSome]
theorem get_any (c : ChV) (n : ByteArray) (hf : Few c.x.params) (hn : n.size ≤ 3000) (w : World) (hx : ChOk w c) :
    Calls Tryz.prog 32 #[.agg #[.string c.x.scheme, .string c.x.token, .slice c.a c.len c.cap], .string n] w fun e w' => e = .returned (optV (getL c.x.params n.data.toList)) ∧ Below w.heap.size w w' := by
  rcases h : getL c.x.params n.data.toList with _ | v
  · exact get_none c n hf hn w hx h
  · exact get_some c n v hf hn w hx h
end Go.Proofs.YtooaiamfbmjmnaaGreatDoor
