/- The law UrlOrigins, walked. -/
import Derived.Test.YtpbipanafihabaaDoorRefOrg
import Derived.Test.YtpbipanafihabaaDoorEqO
import Derived.Test.YtpbipanafihabaaDoorTell
namespace Go.Proofs.YtpbipanafihabaaDoor
open Go.RowKit

set_option maxRecDepth 100000 in
set_option maxHeartbeats 2000000 in
theorem urlOrigins_walk (s : ByteArray) (_hs : s.size ≤ 140737488355328) (w : World) (h : Schemes w) (hg : ErrT w) (hM : MaxL w) :
    Calls Tryd.prog 3 #[.string s] w fun e w' => e = .returned (.bool true) ∧ Below w.heap.size w w' := by
  have HG : Hid (ErrT w) := hg
  have HM : Hid (MaxL w) := hM
  have HC : Hid (Schemes w) := h
  clear hg hM h
  by_cases h : (200 : Int) < (s.size : Int)
  · go_enter Tryd.func3, Tryd.ntmps3
    go_wp2
    go_ret
    exact ⟨rfl, Below.refl _ _⟩
  · clear _hs
    go_enter Tryd.func3, Tryd.ntmps3
    go_wp2_with fail
    refine (refOrigin_any s (by omega) _ HM.out).mono ?_
    rintro e w1 ⟨hb1, ⟨sec, x, n, rfl, ho⟩ | ⟨rfl, ho⟩⟩
    · have HO : Hid (originP s.data.toList = some (sec, x.data.toList, n)) := ho
      have HB1 : Hid (Below w.heap.size w w1) := hb1
      clear ho hb1
      go_wp2_with fail
      have hbA : Below w1.heap.size w1 (w1.alloc (.cells #[.bool sec, .string x, .int .i64 n] 23)) := (Below.refl _ _).alloc (Nat.le_refl _) _
      have HBA : Hid (Below w.heap.size w (w1.alloc (.cells #[.bool sec, .string x, .int .i64 n] 23))) := HB1.out.trans (hbA.mono HB1.out.size)
      have HC1 : Hid (C3 (w1.alloc (.cells #[.bool sec, .string x, .int .i64 n] 23)) w1.heap.size (.bool sec) (.string x) (.int .i64 n)) := c3_new _ _ _ _ _
      clear hbA
      refine (origin_any s (by omega) _ (HC.out.below HBA.out (Nat.le_refl _))).mono ?_
      rintro e w2 ⟨hb2, ⟨sec2, x2, n2, rfl, _, ho2⟩ | ⟨rfl, ho2⟩⟩
      · rw [HO.out] at ho2
        simp only [Option.some.injEq, Prod.mk.injEq] at ho2
        obtain ⟨rfl, hx, rfl⟩ := ho2
        obtain rfl := data_one hx
        have HB2 : Hid (Below w.heap.size w w2) := HBA.out.trans (hb2.mono HBA.out.size)
        have HC2 : Hid (C3 w2 w1.heap.size (.bool sec) (.string x) (.int .i64 n)) := HC1.out.step hb2
        clear hb2 hx HC1
        go_wp2_with fail
        have hbA : Below w2.heap.size w2 (w2.alloc (.cells #[.bool sec, .string x, .int .i64 n] 23)) := (Below.refl _ _).alloc (Nat.le_refl _) _
        refine (bare_nil _).mono ?_
        rintro e w3 ⟨rfl, hb3⟩
        have hc1 := (HC2.out.step hbA).step hb3
        have hc2 := (c3_new w2 (.bool sec) (.string x) (.int .i64 n) 23).step hb3
        have HB3 : Hid (Below w.heap.size w w3) := (HB2.out.trans (hbA.mono HB2.out.size)).trans (hb3.mono (Nat.le_trans HB2.out.size hbA.size))
        have a0 := hc1.c0
        have a1 := hc1.c1
        have a2 := hc1.c2
        have b0 := hc2.c0
        have b1 := hc2.c1
        have b2 := hc2.c2
        have eo := fun W => eqO sec sec x x n n true (by simp) W
        clear hc1 hc2 hb3 hbA
        go_wp2
        go_ret
        exact ⟨rfl, HB3.out⟩
      · rw [HO.out] at ho2
        cases ho2
    · have HO : Hid (originP s.data.toList = none) := ho
      have HB1 : Hid (Below w.heap.size w w1) := hb1
      clear ho hb1
      go_wp2_with fail
      have hbA : Below w1.heap.size w1 (w1.alloc zeroO) := (Below.refl _ _).alloc (Nat.le_refl _) _
      have HBA : Hid (Below w.heap.size w (w1.alloc zeroO)) := HB1.out.trans (hbA.mono HB1.out.size)
      have HC1 : Hid (C3 (w1.alloc zeroO) w1.heap.size (.bool false) (.string ⟨#[]⟩) (.int .i64 0)) := c3_new _ _ _ _ _
      clear hbA
      refine (origin_any s (by omega) _ (HC.out.below HBA.out (Nat.le_refl _))).mono ?_
      rintro e w2 ⟨hb2, ⟨sec2, x2, n2, rfl, _, ho2⟩ | ⟨rfl, ho2⟩⟩
      · rw [HO.out] at ho2
        cases ho2
      · have HB2 : Hid (Below w.heap.size w w2) := HBA.out.trans (hb2.mono HBA.out.size)
        have HC2 : Hid (C3 w2 w1.heap.size (.bool false) (.string ⟨#[]⟩) (.int .i64 0)) := HC1.out.step hb2
        clear hb2 HC1 ho2
        go_wp2_with fail
        have hbA : Below w2.heap.size w2 (w2.alloc zeroO) := (Below.refl _ _).alloc (Nat.le_refl _) _
        have HBB : Hid (Below w.heap.size w (w2.alloc zeroO)) := HB2.out.trans (hbA.mono HB2.out.size)
        refine (bare_form _ (HG.out.below HBB.out)).mono ?_
        rintro e w3 ⟨rfl, hb3⟩
        have hc1 := (HC2.out.step hbA).step hb3
        have hc2 := (c3_new w2 (.bool false) (.string ⟨#[]⟩) (.int .i64 0) 23).step hb3
        have HB3 : Hid (Below w.heap.size w w3) := HBB.out.trans (hb3.mono HBB.out.size)
        have a0 := hc1.c0
        have a1 := hc1.c1
        have a2 := hc1.c2
        have b0 := hc2.c0
        have b1 := hc2.c1
        have b2 := hc2.c2
        have eo := fun W => eqO false false ⟨#[]⟩ ⟨#[]⟩ 0 0 true (by simp) W
        clear hc1 hc2 hb3 hbA
        go_wp2
        go_ret
        exact ⟨rfl, HB3.out⟩
end Go.Proofs.YtpbipanafihabaaDoor
