/- The law AskBack, walked. -/
import Derived.Test.YteldgpkkgnfiaaaGreatDoorAskd
import Derived.Test.YteldgpkkgnfiaaaGreatDoorWrd
import Derived.Test.YteldgpkkgnfiaaaGreatDoorPrn
import Derived.Test.YteldgpkkgnfiaaaGreatDoorEqc
import Derived.Test.YteldgpkkgnfiaaaGreatDoorFar
namespace Go.Proofs.YteldgpkkgnfiaaaGreatDoor
open Go.RowKit

theorem fair_W {x : Chal} (h : FairC x) : chW x ≤ 3300 := by
  have h1 := parW_le x.params 100 (fun p hp => by have := h.2.2.2 p hp; omega)
  have h2 : x.params.length * (2 * 100) ≤ 16 * (2 * 100) := Nat.mul_le_mul_right _ h.2.1
  have h3 := h.1
  unfold chW
  omega
theorem fair_prtW (cs : List ChV) (h : ∀ c ∈ cs, FairC c.x) : prtW (xsOf cs) ≤ cs.length * 7000 := by
  induction cs with
  | nil => simp [xsOf, prtW]
  | cons c r ih =>
    have h1 := h c (by simp)
    have h2 := ih (fun d hd => h d (by simp [hd]))
    have h3 := fair_W h1
    have h4 := h1.2.1
    show 2 * chW c.x + 5 * c.x.params.length + 3 + prtW (xsOf r) ≤ _
    rw [List.length_cons, Nat.succ_mul]
    omega
theorem fair_slim {cs : List ChV} (h : ∀ c ∈ cs, FairC c.x) (hl : cs.length ≤ 8) : Slim cs := by
  refine ⟨by omega, fun c hc => ?_, ?_⟩
  · have h1 := h c hc
    have h2 := h1.1
    exact ⟨⟨by have := h1.2.1; omega, fun p hp => by have := h1.2.2.2 p hp; omega⟩, by omega, by omega⟩
  · have h1 := fair_prtW cs h
    have h2 : cs.length * 7000 ≤ 8 * 7000 := Nat.mul_le_mul_right _ hl
    omega
set_option maxRecDepth 100000 in
set_option maxHeartbeats 4000000 in
theorem askBack_walk (a0 : Option Addr) (len cap b off : Nat) (cs : List ChV) (hlen : len ≤ 9223372036854775807) (hr : ∀ c ∈ cs, Room c) (hh : ∀ c ∈ cs, Held c.x) (w : World) (hx : Chals w a0 len b off cs) :
    Calls Tryz.prog 6 #[.slice a0 len cap] w fun e w' => e = .returned (.bool true) ∧ Below w.heap.size w w' := by
  have HX : Hid (Chals w a0 len b off cs) := hx
  have hl := hx.len_eq
  clear hx
  go_enter Tryz.func6, Tryz.ntmps6
  go_wp2_with fail
  refine (asked_any _).mono ?_
  rintro e w1 ⟨rfl, hb1⟩
  go_wp2_with fail
  refine (worded_any _).mono ?_
  rintro e w2 ⟨rfl, hb2⟩
  have HB2 : Hid (Below w.heap.size w w2) := hb1.trans (hb2.mono hb1.size)
  clear hb1 hb2
  go_wp2_with fail
  refine (fair_any cs hh a0 len cap b off hlen hr _ (HX.out.below HB2.out)).mono ?_
  rintro e w3 ⟨⟨r, rfl, hf⟩, hb3⟩
  have HB3 : Hid (Below w.heap.size w w3) := HB2.out.trans (hb3.mono HB2.out.size)
  clear hb3 hr hh
  cases r
  · clear hf
    go_wp2
    go_ret
    exact ⟨rfl, HB3.out⟩
  obtain ⟨h8, hF⟩ := hf rfl
  have HF : Hid (∀ c ∈ cs, FairC c.x) := hF
  have HS : Hid (Slim cs) := fair_slim hF (by omega)
  have HC3 : Hid (Chals w3 a0 len b off cs) := HX.out.below HB3.out
  clear hf hF
  go_wp2_with fail
  refine (print_any cs HS.out a0 len cap b off _ HC3.out).mono ?_
  rintro e w4 ⟨⟨T, hT, hl', rfl⟩ | ⟨k, g', hT, rfl, _⟩, hb4⟩
  · obtain ⟨t, Ht⟩ : ∃ t, Hid (bs T = t) := ⟨_, rfl⟩
    rw [Ht.out]
    have HTL : Hid (t.data.toList = T) := by show _ = _; rw [← Ht.out, bs_data]
    have HAK : Hid (askL T = .ok (xsOf cs)) := ask_print (fun x hx => by obtain ⟨c, hc, rfl⟩ := List.mem_map.1 hx; exact (HF.out c hc).2.2.1) (by rw [xsOf_len]; omega) hT
    have htz : t.size ≤ 8000000 := by
      have h1 := HS.out.2.2
      have h2 : t.size = T.length := by rw [← Ht.out, bs_size]
      omega
    have HB4 : Hid (Below w.heap.size w w4 ∧ Chals w4 a0 len b off cs) := ⟨HB3.out.trans (hb4.mono HB3.out.size), HC3.out.below hb4⟩
    clear hT hl' hb4
    by_cases h3000 : (3000 : Int) < (t.size : Int)
    · go_wp2
      go_ret
      exact ⟨rfl, HB4.out.1⟩
    · go_wp2_with fail
      refine (parse_any t (by omega) _).mono ?_
      rintro e w5 ⟨⟨cs2, v2, k1, k2, k3, rfl, hown2⟩ | ⟨n2, left2, v2, k1, _⟩, hb5⟩
      · obtain ⟨a2, cap2, g2, ds2, rfl, hC2, hx2, _, _⟩ := hown2.chals
        have hxx : xsOf cs = xsOf ds2 := by
          have := HAK.out
          rw [← HTL.out, k1] at this
          rw [hx2]
          exact (Except.ok.inj this).symm
        have hll : cs2.length = len := by
          have e1 := congrArg List.length hxx
          rw [xsOf_len, xsOf_len] at e1
          have e2 := hC2.len_eq
          omega
        rw [hll] at hC2 ⊢
        have heq := equalC_yes cs ds2 hxx (fun c hc => by have := (HF.out c hc).2.1; show c.x.params.length ≤ _; omega) a0 a2 len cap cap2 b off g2 0 (by omega) w5 (HB4.out.2.below hb5) hC2
        have HB5 : Hid (Below w.heap.size w w5) := HB4.out.1.trans (hb5.mono HB4.out.1.size)
        clear k1 k2 k3 hown2 hC2 hx2 hxx hll hb5
        go_wp2_with fail
        refine heq.mono ?_
        rintro e w6 ⟨rfl, hb6⟩
        clear heq
        go_wp2
        go_ret
        exact ⟨rfl, HB5.out.trans (hb6.mono HB5.out.size)⟩
      · have := HAK.out
        rw [← HTL.out, k1] at this
        cases this
  · have HB4 : Hid (Below w.heap.size w w4) := HB3.out.trans (hb4.mono HB3.out.size)
    clear hb4 hT
    go_wp2
    go_ret
    exact ⟨rfl, HB4.out⟩
end Go.Proofs.YteldgpkkgnfiaaaGreatDoor
