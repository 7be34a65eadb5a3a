/- Texts of one claim, joined: each begins with what it proves. -/
import Derived.Test.YtlmfhbffknganaaDoorJo5
import Derived.Test.YtlmfhbffknganaaDoorJo6
/- The law AskAgain, walked. -/
namespace Go.Proofs.YtlmfhbffknganaaDoor
open Go.RowKit

theorem small_W {ps : List Par} (h : Small ps) : parW ps ≤ 96000 := by
  have h1 := parW_le ps 3000 h.2
  have h2 : ps.length * (2 * 3000) ≤ 16 * (2 * 3000) := Nat.mul_le_mul_right _ h.1
  omega
theorem slight_W (cs : List ChV) (h : ∀ c ∈ cs, Slight c) : prtW (xsOf cs) ≤ cs.length * 210000 := by
  induction cs with
  | nil => simp [xsOf, prtW]
  | cons c r ih =>
    have h1 := h c (by simp)
    have h2 := ih (fun d hd => h d (by simp [hd]))
    have h3 := small_W h1.1
    have h4 := h1.1.1
    have h5 := h1.2.1
    have h6 := h1.2.2
    show 2 * chW c.x + 5 * c.x.params.length + 3 + prtW (xsOf r) ≤ _
    unfold chW
    rw [List.length_cons, Nat.succ_mul]
    omega
theorem slight_slim {cs : List ChV} (h : ∀ c ∈ cs, Slight c) (hl : cs.length ≤ 8) : Slim cs := by
  refine ⟨by omega, fun c hc => ?_, ?_⟩
  · have h1 := h c hc
    exact ⟨⟨by have := h1.1.1; omega, h1.1.2⟩, h1.2.1, h1.2.2⟩
  · have h1 := slight_W cs h
    have h2 : cs.length * 210000 ≤ 8 * 210000 := Nat.mul_le_mul_right _ hl
    omega
/-- The same challenges, where they lie. -/
theorem slight_of {cs ds : List ChV} (hx : xsOf ds = xsOf cs) (h : ∀ c ∈ cs, Slight c) : ∀ d ∈ ds, Slight d := fun d hd => by
  have : d.x ∈ xsOf cs := by rw [← hx]; exact List.mem_map.2 ⟨d, hd, rfl⟩
  obtain ⟨c, hc, e⟩ := List.mem_map.1 this
  have := h c hc
  unfold Slight at this ⊢
  rw [← e]
  exact this
set_option maxRecDepth 100000 in
set_option maxHeartbeats 4000000 in
theorem askAgain_walk (s : ByteArray) (_hs : s.size ≤ 140737488355328) (w : World) :
    Calls Tryd.prog 3 #[.string s] w fun e w' => e = .returned (.bool true) ∧ Below w.heap.size w w' := by
  go_enter Tryd.func3, Tryd.ntmps3
  go_wp2_with fail
  refine (asked_any _).mono ?_
  rintro e w1 ⟨rfl, hb1⟩
  by_cases h500 : (500 : Int) < (s.size : Int)
  · go_wp2
    go_ret
    exact ⟨rfl, hb1⟩
  · have hs3 : s.size ≤ 3000 := by omega
    go_wp2_with fail
    refine (parse_any s hs3 _).mono ?_
    rintro e w2 ⟨⟨cs, v, h1, h2, h3, rfl, hown⟩ | ⟨n, left, v, h1, rfl, hat⟩, hb2⟩
    · obtain ⟨a, cap, g, ds, rfl, hC, hx, _, _⟩ := hown.chals
      have HB2 : Hid (Below w.heap.size w w2) := hb1.trans (hb2.mono hb1.size)
      have HSL : Hid (∀ d ∈ ds, Slight d) := slight_of hx h3
      have hdl : ds.length = cs.length := hC.len_eq
      obtain ⟨nn, HNN⟩ : ∃ nn, Hid (cs.length = nn) := ⟨_, rfl⟩
      rw [HNN.out] at hC ⊢
      have hn8 : nn ≤ 8 := by rw [← HNN.out]; exact h2
      have HC : Hid (Chals w2 a nn g 0 ds) := hC
      have HS : Hid (Slim ds) := slight_slim HSL.out (by omega)
      obtain ⟨T, hT, hT2⟩ := ask_again h1
      rw [← hx] at hT hT2
      have HT : Hid (printL 0 (xsOf ds) = .ok T ∧ askL T = .ok (xsOf ds)) := ⟨hT, hT2⟩
      clear h1 h2 h3 hown hC hx hT hT2 hb2 hb1 hdl
      go_wp2_with fail
      refine (print_any ds HS.out a nn cap g 0 _ HC.out).mono ?_
      rintro e w3 ⟨⟨T', hT', hl', rfl⟩ | ⟨k, g', hT', _⟩, hb3⟩
      · obtain rfl : T = T' := by have := HT.out.1; rw [this] at hT'; exact Except.ok.inj hT'
        obtain ⟨t, Ht⟩ : ∃ t, Hid (bs T = t) := ⟨_, rfl⟩
        rw [Ht.out]
        have HTL : Hid (t.data.toList = T) := by show _ = _; rw [← Ht.out, bs_data]
        have htz : t.size ≤ 8000000 := by
          have h1 := HS.out.2.2
          have h2 : t.size = T.length := by rw [← Ht.out, bs_size]
          omega
        have HB3 : Hid (Below w.heap.size w w3 ∧ Chals w3 a nn g 0 ds) := ⟨HB2.out.trans (hb3.mono HB2.out.size), HC.out.below hb3⟩
        clear hT' hl' hb3
        by_cases h3000 : 3000 < t.size
        · have h3' : (3000 : Int) < (t.size : Int) := by omega
          go_wp2_with fail
          refine (parse_long t h3000 _).mono ?_
          rintro e w4 ⟨rfl, hw4⟩
          obtain rfl := hw4.symm
          clear hw4
          go_wp2
          go_ret
          exact ⟨rfl, HB3.out.1⟩
        · go_wp2_with fail
          refine (parse_any t (by omega) _).mono ?_
          rintro e w4 ⟨⟨cs2, v2, k1, k2, k3, rfl, hown2⟩ | ⟨n2, left2, v2, k1, _⟩, hb4⟩
          · obtain ⟨a2, cap2, g2, ds2, rfl, hC2, hx2, _, _⟩ := hown2.chals
            have hxx : xsOf ds = xsOf ds2 := by
              have := HT.out.2
              rw [← HTL.out, k1] at this
              rw [hx2]
              exact (Except.ok.inj this).symm
            have hll : cs2.length = nn := by
              have e1 := congrArg List.length hxx
              rw [xsOf_len, xsOf_len] at e1
              have e2 := hC2.len_eq
              have e3 := HB3.out.2.len_eq
              omega
            rw [hll] at hC2 ⊢
            have heq := equalC_yes ds ds2 hxx (fun c hc => by have := (HSL.out c hc).1.1; show c.x.params.length ≤ _; omega) a a2 nn cap cap2 g 0 g2 0 (by omega) w4 (HB3.out.2.below hb4) hC2
            have HB4 : Hid (Below w.heap.size w w4) := HB3.out.1.trans (hb4.mono HB3.out.1.size)
            clear k1 k2 k3 hown2 hC2 hx2 hxx hll hb4
            go_wp2_with (go_at_call 9; refine heq.mono ?_; rintro e w5 ⟨rfl, hb5⟩)
            go_ret
            exact ⟨rfl, HB4.out.trans (hb5.mono HB4.out.size)⟩
          · have := HT.out.2
            rw [← HTL.out, k1] at this
            cases this
      · have := HT.out.1
        rw [this] at hT'
        cases hT'
    · obtain ⟨eg, rfl, _, _, _, _⟩ := hat
      have HB2 : Hid (Below w.heap.size w w2) := hb1.trans (hb2.mono hb1.size)
      clear h1 hb1 hb2
      go_wp2
      go_ret
      exact ⟨rfl, HB2⟩
end Go.Proofs.YtlmfhbffknganaaDoor
