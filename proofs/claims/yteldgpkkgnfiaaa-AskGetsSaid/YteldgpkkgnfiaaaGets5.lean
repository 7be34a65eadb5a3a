/- The law AskGets, walked. -/
import Derived.Test.YteldgpkkgnfiaaaRGet
import Derived.Test.YteldgpkkgnfiaaaHvy
namespace Go.Proofs.Yteldgpkkgnfiaaa
open Go.RowKit

theorem one_chal {w : World} (c : ChV) (hx : ChOk w c) (hb : Below w.heap.size w (w.alloc (.cells #[.string c.x.scheme, .string c.x.token, .slice c.a c.len c.cap] 24))) :
    Chals (w.alloc (.cells #[.string c.x.scheme, .string c.x.token, .slice c.a c.len c.cap] 24)) (some ⟨w.heap.size, 0, none⟩) 1 w.heap.size 0 [c] := by
  have hj : ∀ (j : Nat) (d : ChV), [c][j]? = some d → j = 0 ∧ d = c := fun j d h => by
    rcases j with _ | j
    · simp at h; exact ⟨rfl, h.symm⟩
    · simp at h
  refine ⟨rfl, fun _ => ⟨rfl, by simp⟩, fun j d h => ?_, fun j d h => ?_, fun j d h => ?_, fun d h => ?_⟩
  · obtain ⟨rfl, rfl⟩ := hj j d h; exact World.cell?_alloc_mark _ _ _ _ _
  · obtain ⟨rfl, rfl⟩ := hj j d h; exact World.cell?_alloc_mark _ _ _ _ _
  · obtain ⟨rfl, rfl⟩ := hj j d h; exact World.cell?_alloc_mark _ _ _ _ _
  · rw [List.mem_singleton.1 h]; exact hx.below hb
theorem light_one (c : ChV) : lightL [c] = lightB c.x := by simp [lightL]
theorem drewN_below {B : Nat} {a w : World} (h : Below B a w) (n : Nat) : Below B a (w.drewN n) := h.trans ⟨rfl, rfl, rfl, Nat.le_refl _, fun _ _ => rfl⟩
theorem chok_drewN {w : World} {c : ChV} (h : ChOk w c) (n : Nat) : ChOk (w.drewN n) c := ⟨h.len_eq, h.lies, h.one, h.two⟩
theorem light_Few {c : Chal} (h : lightB c = true) : Few c.params := by
  obtain ⟨h1, _, _, h2⟩ := light_few h
  exact ⟨by omega, fun p hp => ⟨by have := (h2 p hp).1; omega, by have := (h2 p hp).2; omega⟩⟩
set_option maxRecDepth 100000 in
set_option maxHeartbeats 2000000 in
theorem askGets_walk (c : ChV) (hh : Held c.x) (hpl : c.len ≤ 9223372036854775807) (n : ByteArray) (_hn : n.size ≤ 140737488355328) (w : World) (hx : ChOk w c) :
    Calls Try.prog 3 #[.agg #[.string c.x.scheme, .string c.x.token, .slice c.a c.len c.cap], .string n] w fun e w' => e = .returned (.bool true) ∧ Below w.heap.size w w' := by
  have hb1 : Below w.heap.size w (w.alloc (.cells #[.string c.x.scheme, .string c.x.token, .slice c.a c.len c.cap] 24)) := (Below.refl _ _).alloc (Nat.le_refl _) _
  have hb2 : Below (w.alloc (.cells #[.string c.x.scheme, .string c.x.token, .slice c.a c.len c.cap] 24)).heap.size (w.alloc (.cells #[.string c.x.scheme, .string c.x.token, .slice c.a c.len c.cap] 24)) ((w.alloc (.cells #[.string c.x.scheme, .string c.x.token, .slice c.a c.len c.cap] 24)).alloc (.cells #[.string c.x.scheme, .string c.x.token, .slice c.a c.len c.cap] 24)) := (Below.refl _ _).alloc (Nat.le_refl _) _
  have HC : Hid (Chals ((w.alloc (.cells #[.string c.x.scheme, .string c.x.token, .slice c.a c.len c.cap] 24)).alloc (.cells #[.string c.x.scheme, .string c.x.token, .slice c.a c.len c.cap] 24)) (some ⟨w.heap.size + 1, 0, none⟩) 1 (w.heap.size + 1) 0 [c]) := by
    have h := one_chal c (hx.below hb1) hb2
    rw [show (w.alloc (.cells #[.string c.x.scheme, .string c.x.token, .slice c.a c.len c.cap] 24)).heap.size = w.heap.size + 1 by simp] at h
    exact h
  have HX : Hid (ChOk ((w.alloc (.cells #[.string c.x.scheme, .string c.x.token, .slice c.a c.len c.cap] 24)).alloc (.cells #[.string c.x.scheme, .string c.x.token, .slice c.a c.len c.cap] 24)) c) := (hx.below hb1).below hb2
  have HB : Hid (Below w.heap.size w ((w.alloc (.cells #[.string c.x.scheme, .string c.x.token, .slice c.a c.len c.cap] 24)).alloc (.cells #[.string c.x.scheme, .string c.x.token, .slice c.a c.len c.cap] 24))) := hb1.trans (hb2.mono (by simp))
  have HH : Hid (Held c.x) := hh
  clear hx hh hb1 hb2
  go_enter Try.func3, Try.ntmps3
  go_wp2_with fail
  refine (heavy_any [c] (fun d hd => by rw [List.mem_singleton.1 hd]; exact HH.out) _ 1 1 _ 0 (by omega) (fun d hd => by rw [List.mem_singleton.1 hd]; exact hpl) _ HC.out).mono ?_
  rintro e w2 ⟨rfl, q, rfl⟩
  rw [light_one]
  cases hl : lightB c.x
  · go_wp2
    go_ret
    exact ⟨rfl, drewN_below HB.out _⟩
  · have HF : Hid (Few c.x.params) := light_Few hl
    by_cases h60 : (60 : Int) < (n.size : Int)
    · go_wp2
      go_ret
      exact ⟨rfl, drewN_below HB.out _⟩
    · generalize hW : ((w.alloc (.cells #[.string c.x.scheme, .string c.x.token, .slice c.a c.len c.cap] 24)).alloc (.cells #[.string c.x.scheme, .string c.x.token, .slice c.a c.len c.cap] 24)) = W at HX HB
      have hbx : ∀ j v, #[Value.string c.x.scheme, .string c.x.token, .slice c.a c.len c.cap][j]? = some v → W.cell? ⟨w.heap.size, j, none⟩ = some v := fun j v hv => by
        rw [← hW, World.cell?_alloc_old _ _ _ (by simp)]
        exact (World.cell?_alloc_mark _ _ _ _ _).trans hv
      have hc0 := hbx 0 _ rfl
      have hc1 := hbx 1 _ rfl
      have hc2 := hbx 2 _ rfl
      have hwl : w.heap.size < W.heap.size := by rw [← hW]; simp; omega
      clear hW HC hbx
      have h60' : n.size ≤ 3000 := by omega
      go_wp2_with fail
      refine (refGet_any c n HF.out h60' _ (chok_drewN HX.out _)).mono ?_
      rintro e w3 ⟨rfl, hb3⟩
      have hd0 : w3.cell? ⟨w.heap.size, 0, none⟩ = some (.string c.x.scheme) := (hb3.cell (p := ⟨w.heap.size, 0, none⟩) hwl).trans hc0
      have hd1 : w3.cell? ⟨w.heap.size, 1, none⟩ = some (.string c.x.token) := (hb3.cell (p := ⟨w.heap.size, 1, none⟩) hwl).trans hc1
      have hd2 : w3.cell? ⟨w.heap.size, 2, none⟩ = some (.slice c.a c.len c.cap) := (hb3.cell (p := ⟨w.heap.size, 2, none⟩) hwl).trans hc2
      have HX3 : Hid (ChOk w3 c) := (chok_drewN HX.out q).below hb3
      have HB3 : Hid (Below w.heap.size w w3 ∧ w.heap.size ≤ w3.heap.size) := ⟨(drewN_below HB.out q).trans (hb3.mono (Nat.le_of_lt hwl)), Nat.le_trans (Nat.le_of_lt hwl) hb3.size⟩
      clear hc0 hc1 hc2 hb3
      unfold optV
      obtain ⟨v, hv⟩ : ∃ v, (getL c.x.params n.data.toList).getD ⟨#[]⟩ = v := ⟨_, rfl⟩
      obtain ⟨t, ht⟩ : ∃ t, (getL c.x.params n.data.toList).isSome = t := ⟨_, rfl⟩
      have HV : Hid ((getL c.x.params n.data.toList).getD ⟨#[]⟩ = v ∧ (getL c.x.params n.data.toList).isSome = t) := ⟨hv, ht⟩
      rw [hv, ht]
      clear hv ht
      have hget : Calls Try.prog 6 #[.agg #[.string c.x.scheme, .string c.x.token, .slice c.a c.len c.cap], .string n] w3 fun e w' => e = .returned (.tuple #[.string v, .bool t]) ∧ Below w3.heap.size w3 w' := by
        refine (get_any c n HF.out h60' w3 HX3.out).mono ?_
        rintro e w4 ⟨rfl, hb4⟩
        exact ⟨by unfold optV; rw [HV.out.1, HV.out.2], hb4⟩
      go_wp2_with (go_at_call 6; refine hget.mono ?_; rintro e w4 ⟨rfl, hb4⟩)
      go_ret
      exact ⟨rfl, HB3.out.1.trans (hb4.mono HB3.out.2)⟩
end Go.Proofs.Yteldgpkkgnfiaaa
