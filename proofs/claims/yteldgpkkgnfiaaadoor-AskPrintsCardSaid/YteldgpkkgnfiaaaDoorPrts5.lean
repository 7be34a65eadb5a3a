/- The law AskPrints, walked. -/
import Derived.Test.YteldgpkkgnfiaaaDoorRPrn
import Derived.Test.YteldgpkkgnfiaaaDoorPlc
namespace Go.Proofs.YteldgpkkgnfiaaaDoor
open Go.RowKit

theorem light_each {cs : List ChV} (h : lightL cs = true) : cs.length ≤ 10 ∧ ∀ c ∈ cs, lightB c.x = true := by
  unfold lightL at h
  simp only [Bool.and_eq_true, decide_eq_true_eq, List.all_eq_true] at h
  exact h
theorem prtW_le (xs : List Chal) (h : ∀ x ∈ xs, lightB x = true) : prtW xs ≤ xs.length * 1303 := by
  induction xs with
  | nil => simp [prtW]
  | cons x r ih =>
    have h1 := h x (by simp)
    have h2 := ih (fun y hy => h y (by simp [hy]))
    unfold lightB at h1
    simp only [Bool.and_eq_true, decide_eq_true_eq] at h1
    rw [prtW, List.length_cons, Nat.succ_mul]
    omega
theorem light_slim {cs : List ChV} (h : lightL cs = true) : Slim cs := by
  obtain ⟨h1, h2⟩ := light_each h
  refine ⟨by omega, fun c hc => ?_, ?_⟩
  · obtain ⟨k1, k2, k3, k4⟩ := light_few (h2 c hc)
    exact ⟨⟨by omega, fun p hp => by have := k4 p hp; omega⟩, by omega, by omega⟩
  · have h3 := prtW_le (xsOf cs) (fun x hx => by obtain ⟨c, hc, rfl⟩ := List.mem_map.1 hx; exact h2 c hc)
    have h4 : (xsOf cs).length = cs.length := by unfold xsOf; simp
    rw [h4] at h3
    have : cs.length * 1303 ≤ 10 * 1303 := Nat.mul_le_mul_right _ h1
    omega
theorem chals_drewN {w : World} {a0 : Option Addr} {len b off : Nat} {cs : List ChV} (h : Chals w a0 len b off cs) (n : Nat) : Chals (w.drewN n) a0 len b off cs :=
  ⟨h.len_eq, h.lies, h.one, h.two, h.three, fun c hc => ⟨(h.pars c hc).len_eq, (h.pars c hc).lies, (h.pars c hc).one, (h.pars c hc).two⟩⟩
set_option maxRecDepth 100000 in
set_option maxHeartbeats 2000000 in
theorem askPrints_walk (a0 : Option Addr) (len cap b off : Nat) (cs : List ChV) (hlen : len ≤ 9223372036854775807) (hpl : ∀ c ∈ cs, c.len ≤ 9223372036854775807) (hh : ∀ c ∈ cs, Held c.x) (w : World) (hx : Chals w a0 len b off cs) (hg : ErrT w) :
    Calls Tryd.prog 3 #[.slice a0 len cap] w fun e w' => e = .returned (.bool true) ∧ Below w.heap.size w w' := by
  have HX : Hid (Chals w a0 len b off cs) := hx
  have HG : Hid (ErrT w) := hg
  have hhv := heavy_any cs hh a0 len cap b off hlen hpl w hx
  clear hx hg
  cases hl : lightL cs
  · rw [hl] at hhv
    go_enter Tryd.func3, Tryd.ntmps3
    go_wp2_with (go_at_call 4; refine hhv.mono ?_; rintro e w1 ⟨rfl, q, rfl⟩)
    go_ret
    exact ⟨rfl, drewN_belowB (Below.refl _ _) _⟩
  · have HS : Hid (Slim cs) := light_slim hl
    rw [hl] at hhv
    go_enter Tryd.func3, Tryd.ntmps3
    go_wp2_with (go_at_call 4; refine hhv.mono ?_; rintro e w1 ⟨rfl, q, rfl⟩)
    clear hhv
    have HX1 : Hid (Chals (w.drewN q) a0 len b off cs) := chals_drewN HX.out q
    have HB1 : Hid (Below w.heap.size w (w.drewN q)) := drewN_belowB (Below.refl _ _) _
    refine (refPrint_any cs HS.out a0 len cap b off _ HX1.out).mono ?_
    rintro e w2 ⟨ha, hb2⟩
    have hbb : Below w.heap.size w w2 := HB1.out.trans hb2
    have hal : ∀ x y : Value, Below w2.heap.size w2 (w2.alloc (.cells #[x, y] 26)) := fun x y => (Below.refl _ _).alloc (Nat.le_refl _) _
    have HB2 : Hid (∀ x y : Value, Below w.heap.size w (w2.alloc (.cells #[x, y] 26))) := fun x y => hbb.trans ((hal x y).mono hbb.size)
    have HX2 : Hid (∀ x y : Value, Chals (w2.alloc (.cells #[x, y] 26)) a0 len b off cs) := fun x y => HX.out.below (HB2.out x y)
    have HF2 : Hid (∀ x y : Value, (w2.alloc (.cells #[x, y] 26)).cell? ⟨w2.heap.size, 0, none⟩ = some x ∧ (w2.alloc (.cells #[x, y] 26)).cell? ⟨w2.heap.size, 1, none⟩ = some y) := fun x y => ⟨World.cell?_alloc_mark _ _ _ _ _, World.cell?_alloc_mark _ _ _ _ _⟩
    clear hb2 hbb hal hl
    rcases ha with ⟨t, ht, rfl⟩ | ⟨k, ht, rfl⟩
    · obtain ⟨so, HSO⟩ : ∃ so, Hid (bs t = so) := ⟨_, rfl⟩
      rw [HSO.out]
      have HT : Hid (printL 0 (xsOf cs) = .ok t) := ht
      clear ht
      go_wp2_with fail
      refine (print_any cs HS.out a0 len cap b off _ (HX2.out _ _)).mono ?_
      rintro e w3 ⟨⟨t', ht', _, rfl⟩ | ⟨k, g, ht', _⟩, hb3⟩
      · obtain rfl : t = t' := by rw [HT.out] at ht'; exact Except.ok.inj ht'
        clear ht'
        rw [HSO.out]
        have c0 := (hb3.cell (p := ⟨w2.heap.size, 0, none⟩) (by simp)).trans (HF2.out _ _).1
        have c1 := (hb3.cell (p := ⟨w2.heap.size, 1, none⟩) (by simp)).trans (HF2.out _ _).2
        have HB3 : Hid (Below w.heap.size w w3) := (HB2.out _ _).trans (hb3.mono (HB2.out _ _).size)
        clear hb3
        go_wp2_with (go_at_call 7; refine (placed_nil _).mono ?_; rintro e w4 ⟨rfl, hb4⟩)
        go_ret
        exact ⟨rfl, HB3.out.trans (hb4.mono HB3.out.size)⟩
      · rw [HT.out] at ht'; cases ht'
    · have HT : Hid (printL 0 (xsOf cs) = .error k) := ht
      clear ht
      go_wp2_with fail
      refine (print_any cs HS.out a0 len cap b off _ (HX2.out _ _)).mono ?_
      rintro e w3 ⟨⟨t', ht', _⟩ | ⟨k', g, ht', rfl, hg0, hg1, _, hgl⟩, hb3⟩
      · rw [HT.out] at ht'; cases ht'
      · obtain rfl : k = k' := by rw [HT.out] at ht'; exact Except.error.inj ht'
        clear ht'
        have c0 := (hb3.cell (p := ⟨w2.heap.size, 0, none⟩) (by simp)).trans (HF2.out _ _).1
        have c1 := (hb3.cell (p := ⟨w2.heap.size, 1, none⟩) (by simp)).trans (HF2.out _ _).2
        have HB3 : Hid (Below w.heap.size w w3) := (HB2.out _ _).trans (hb3.mono (HB2.out _ _).size)
        have HP : Hid (Calls Tryd.prog 7 #[.iface 49 (.pointer (some ⟨g, 0, none⟩)), .agg #[.int .i64 3, .int .i64 (k : Int)]] w3 fun e w' => e = .returned (.bool true) ∧ Below w3.heap.size w3 w') := placed_at g 3 k w3 (HG.out.below HB3.out) hg0 hg1 hgl
        clear hb3 hg0 hg1
        go_wp2_with (go_at_call 7; refine HP.out.mono ?_; rintro e w4 ⟨rfl, hb4⟩)
        go_ret
        exact ⟨rfl, HB3.out.trans (hb4.mono HB3.out.size)⟩
end Go.Proofs.YteldgpkkgnfiaaaDoor
