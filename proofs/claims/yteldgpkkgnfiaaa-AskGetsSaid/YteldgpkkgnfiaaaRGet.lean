/- The value of a parameter, by the document. -/
import Derived.Test.YteldgpkkgnfiaaaChl
import Derived.Test.YteldgpkkgnfiaaaRSam
namespace Go.Proofs.Yteldgpkkgnfiaaa
open Go.RowKit

theorem getL_none {ps : List Par} {n : List UInt8} (h : ps.find? (fun p => sameL p.1.data.toList n) = none) : getL ps n = none := by unfold getL; rw [h]; rfl
theorem getL_some {ps : List Par} {n : List UInt8} {p : Par} (h : ps.find? (fun p => sameL p.1.data.toList n) = some p) : getL ps n = some p.2 := by unfold getL; rw [h]; rfl
/-- What is answered where a parameter may be there, or not. -/
def optV (o : Option ByteArray) : Value := .tuple #[.string (o.getD ⟨#[]⟩), .bool o.isSome]
set_option maxRecDepth 100000 in
set_option maxHeartbeats 2000000 in
theorem refGet_any (c : ChV) (n : ByteArray) (hf : Few c.x.params) (hn : n.size ≤ 3000) (w : World) (hx : ChOk w c) :
    Calls Try.prog 5 #[.agg #[.string c.x.scheme, .string c.x.token, .slice c.a c.len c.cap], .string n] w fun e w' => e = .returned (optV (getL c.x.params n.data.toList)) ∧ Below w.heap.size w w' := by
  have hb1 : Below w.heap.size w (w.alloc (.cells #[.string c.x.scheme, .string c.x.token, .slice c.a c.len c.cap] 24)) := (Below.refl _ _).alloc (Nat.le_refl _) _
  have HX : Hid (ChOk (w.alloc (.cells #[.string c.x.scheme, .string c.x.token, .slice c.a c.len c.cap] 24)) c) := hx.below hb1
  have HF : Hid (Few c.x.params) := hf
  have hcl : c.len ≤ 1000000 := hf.1
  clear hx hf
  go_enter Try.func5, Try.ntmps5
  go_wp2
  go_loopw [6] (fun i wr => ∃ (k : Nat), k ≤ c.len ∧ i = .int .i64 k ∧ Hid ((c.x.params.take k).find? (fun p => sameL p.1.data.toList n.data.toList) = none) ∧ Below (w.alloc (.cells #[.string c.x.scheme, .string c.x.token, .slice c.a c.len c.cap] 24)).heap.size (w.alloc (.cells #[.string c.x.scheme, .string c.x.token, .slice c.a c.len c.cap] 24)) wr) (fun i _ => c.len - (intOf i).toNat)
  case atStart => exact ⟨0, Nat.zero_le _, rfl, rfl, Below.refl _ _⟩
  case round =>
    obtain ⟨k, hk, rfl, HK, hb⟩ := hrel
    have hbx : wr.cell? ⟨w.heap.size, 2, none⟩ = some (.slice c.a c.len c.cap) := (hb.cell (p := ⟨w.heap.size, 2, none⟩) (by simp)).trans (World.cell?_alloc_mark _ _ _ _ _)
    by_cases hlt : k < c.len
    · obtain ⟨p, hpk⟩ : ∃ p, c.x.params[k]? = some p := ⟨c.x.params[k]'hlt, List.getElem?_eq_getElem hlt⟩
      obtain ⟨hF, hT⟩ := find_take HK.out hpk
      obtain ⟨hz1, hz2⟩ := HF.out.2 p (List.mem_of_getElem? hpk)
      have hX := HX.out.below hb
      obtain ⟨ha, _⟩ := hX.lies (by omega)
      have hc1 := hX.one k p hpk
      have hc2 := hX.two k p hpk
      have hbl : c.b < wr.heap.size := (hX.lies (by omega)).2
      rw [ha] at hbx
      have hkL : (k : Int) < (c.len : Int) := by omega
      have hwz : w.heap.size < wr.heap.size := Nat.lt_of_lt_of_le (by simp) hb.size
      clear hpk hX ha
      go_wp2_with fail
      refine (refSame_any _ _ (by omega) (by omega) _).mono ?_
      rintro e w2 ⟨rfl, hb2⟩
      have hbx2 : w2.cell? ⟨w.heap.size, 2, none⟩ = some (.slice (some ⟨c.b, c.off, none⟩) c.len c.cap) := (hb2.cell (p := ⟨w.heap.size, 2, none⟩) hwz).trans hbx
      have hc2' : w2.cell? ⟨c.b, c.off + k * 2 + 1, none⟩ = some (.string p.2) := (hb2.cell (p := ⟨c.b, c.off + k * 2 + 1, none⟩) hbl).trans hc2
      clear hbx hc1 hc2
      have hb' := hb.trans (hb2.mono hb.size)
      cases hf : sameL p.1.data.toList n.data.toList
      · have HS : Hid ((c.x.params.take (k + 1)).find? (fun p => sameL p.1.data.toList n.data.toList) = none) := hF hf
        clear hF hT
        go_wp2
        go_roundw
        case rel => exact ⟨k + 1, by omega, by go_num, HS, hb'⟩
        case measure => simp [intOf]; omega
      · have HS : Hid (getL c.x.params n.data.toList = some p.2) := getL_some (hT hf)
        clear hF hT
        go_wp2
        go_ret2
        exact ⟨by rw [HS.out]; rfl, hb1.trans (hb'.mono (by simp))⟩
    · have HS : Hid (getL c.x.params n.data.toList = none) := by
        have := HK.out
        rw [List.take_of_length_le (by unfold ChV.len at hlt; omega)] at this
        exact getL_none this
      have hkL : ¬ (k : Int) < (c.len : Int) := by omega
      go_wp2
      go_ret2
      exact ⟨by rw [HS.out]; rfl, hb1.trans (hb.mono (by simp))⟩
theorem get_any (c : ChV) (n : ByteArray) (hf : Few c.x.params) (hn : n.size ≤ 3000) (w : World) (hx : ChOk w c) :
    Calls Try.prog 6 #[.agg #[.string c.x.scheme, .string c.x.token, .slice c.a c.len c.cap], .string n] w fun e w' => e = .returned (optV (getL c.x.params n.data.toList)) ∧ Below w.heap.size w w' := by
  rcases h : getL c.x.params n.data.toList with _ | v
  · exact get_none c n hf hn w hx h
  · exact get_some c n v hf hn w hx h
end Go.Proofs.Yteldgpkkgnfiaaa
