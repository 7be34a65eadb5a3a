/- Texts of one claim, joined: each begins with what it proves. -/
import Derived.Test.YtoblpjknnchlmabGreatDoorJo7
import Derived.Test.YtoblpjknnchlmabGreatDoorJo3
import Derived.Test.YtoblpjknnchlmabGreatDoorJo1
import Derived.Test.YtoblpjknnchlmabGreatDoorJo6
import Derived.Deep.DeepCutAuto
import Derived.ProofKit
import Derived.OpenShut
import Derived.SliceStrings
import Derived.Carry
import Derived.SizedLaws
import Derived.Deep.Slices
import Derived.Deep.SlicePairs
import Derived.Deep.Strs
import Derived.Lib.SmallJoins
import Derived.Lib.LaidTab
/- The law CoversMore, walked. -/
namespace Go.Proofs.YtoblpjknnchlmabGreatDoor
open Go.RowKit
set_option linter.unusedVariables false
set_option linter.unusedSimpArgs false

set_option maxRecDepth 100000 in
set_option maxHeartbeats 8000000 in
theorem coversMore_walk (pt fp up : Int) (ht : (-9223372036854775808 ≤ pt ∧ pt ≤ 9223372036854775807) ∧ (-9223372036854775808 ≤ fp ∧ fp ≤ 9223372036854775807) ∧ -9223372036854775808 ≤ up ∧ up ≤ 9223372036854775807) (fs us wi : Bool) (fh uh pa qu me bo : ByteArray) (hs : List Par) (hz : (fh.size ≤ 140737488355328 ∧ uh.size ≤ 140737488355328 ∧ pa.size ≤ 140737488355328 ∧ qu.size ≤ 140737488355328 ∧ me.size ≤ 140737488355328 ∧ bo.size ≤ 140737488355328) ∧ ∀ q ∈ hs, q.1.size ≤ 140737488355328 ∧ q.2.size ≤ 140737488355328) (ra : Option Addr) (rl rc rb ro : Nat) (hlr : rl ≤ 9223372036854775807) (hrc : rl ≤ rc ∧ rc ≤ 9223372036854775807) (a0 : Option Addr) (len cap b off : Nat) (ps : List PsV) (hln : len ≤ 140737488355328) (a1 : Option Addr) (len1 cap1 b1 off1 : Nat) (qs : List PsV) (hln1 : len1 ≤ 140737488355328)
    (w : World) (hh : Pars w ra rl rb ro hs) (hx : Pss w a0 len b off ps) (hy : Pss w a1 len1 b1 off1 qs) (he : Env w) (hm : Methods w) :
    Calls Tryz.prog 8 #[.agg #[.int .i64 pt, .bool fs, .string fh, .int .i64 fp, .bool us, .string uh, .int .i64 up, .string pa, .string qu, .string me, .slice ra rl rc, .bool wi, .string bo], .slice a0 len cap, .slice a1 len1 cap1] w fun e w' => e = .returned (.bool true) ∧ Below w.heap.size w w' := by
  have HX : Hid (Pss w a0 len b off ps) := hx
  have HY : Hid (Pss w a1 len1 b1 off1 qs) := hy
  have HH : Hid (Pars w ra rl rb ro hs) := hh
  have HQ : Hid (BoxQ 28 w #[.int .i64 pt, .bool fs, .string fh, .int .i64 fp, .bool us, .string uh, .int .i64 up, .string pa, .string qu, .string me, .slice ra rl rc, .bool wi, .string bo] (w.alloc (.cells #[.int .i64 pt, .bool fs, .string fh, .int .i64 fp, .bool us, .string uh, .int .i64 up, .string pa, .string qu, .string me, .slice ra rl rc, .bool wi, .string bo] 28))) := BoxQ.new _ _ _
  have hgr := granted_any _ (he.below HQ.out.bel (Nat.le_refl _)) (hm.below HQ.out.bel (Nat.le_refl _))
  have HENV : Hid (∀ W, Below w.heap.size w W → Methods W) := fun W hW => hm.below hW (Nat.le_refl _)
  have HRF : Hid (∀ W, Below w.heap.size w W → Calls Tryz.prog 17 #[.agg #[.int .i64 pt, .bool fs, .string fh, .int .i64 fp, .bool us, .string uh, .int .i64 up, .string pa, .string qu, .string me, .slice ra rl rc, .bool wi, .string bo]] W fun e w' => e = .returned (.bool (rightB hs (me.size + pa.size + qu.size + uh.size + fh.size))) ∧ Below W.heap.size W w') := fun W hW =>
    rightful_any hs hz.2 ra rl rc rb ro hlr pt fp up fs us wi fh uh pa qu me bo hz.1.1 hz.1.2.1 hz.1.2.2.1 hz.1.2.2.2.1 hz.1.2.2.2.2.1 W (hh.below hW)
  obtain ⟨q, HQR⟩ : ∃ q, Hid (rightB hs (me.size + pa.size + qu.size + uh.size + fh.size) = q) := ⟨_, rfl⟩
  rw [HQR.out] at HRF
  have hs1 : IntKind.i64.wrap ((len : Int) + (len1 : Int)) = (len : Int) + (len1 : Int) := wrap64_id (by omega) (by omega)
  clear hx hy hz he hm hh ht
  go_enter Tryz.func8, Tryz.ntmps8
  go_wp2_with fail
  refine hgr.mono ?_
  rintro e w1 ⟨rfl, hb1⟩
  have HQ1 : Hid (BoxQ 28 w #[.int .i64 pt, .bool fs, .string fh, .int .i64 fp, .bool us, .string uh, .int .i64 up, .string pa, .string qu, .string me, .slice ra rl rc, .bool wi, .string bo] w1) := HQ.out.step hb1
  clear hgr hb1 HQ
  have k0 := HQ1.out.at 0 _ rfl
  have k1 := HQ1.out.at 1 _ rfl
  have k2 := HQ1.out.at 2 _ rfl
  have k3 := HQ1.out.at 3 _ rfl
  have k4 := HQ1.out.at 4 _ rfl
  have k5 := HQ1.out.at 5 _ rfl
  have k6 := HQ1.out.at 6 _ rfl
  have k7 := HQ1.out.at 7 _ rfl
  have k8 := HQ1.out.at 8 _ rfl
  have k9 := HQ1.out.at 9 _ rfl
  have k10 := HQ1.out.at 10 _ rfl
  have k11 := HQ1.out.at 11 _ rfl
  have k12 := HQ1.out.at 12 _ rfl
  go_wp2_with fail
  refine (HRF.out _ HQ1.out.bel).mono ?_
  rintro e w2 ⟨rfl, hb2⟩
  have HQ2 : Hid (BoxQ 28 w #[.int .i64 pt, .bool fs, .string fh, .int .i64 fp, .bool us, .string uh, .int .i64 up, .string pa, .string qu, .string me, .slice ra rl rc, .bool wi, .string bo] w2) := HQ1.out.step hb2
  clear hb2 HQ1 k0 k1 k2 k3 k4 k5 k6 k7 k8 k9 k10 k11 k12
  cases q
  · go_wp2
    go_ret
    exact ⟨rfl, HQ2.out.bel⟩
  by_cases hlen : len + len1 ≤ 60
  case' neg =>
    have hg : ¬ ((len : Int) + (len1 : Int) ≤ 60) := by omega
    have hg2 : (60 : Int) < (len : Int) + (len1 : Int) := by omega
    go_wp2
    go_ret
    exact ⟨rfl, HQ2.out.bel⟩
  have hg2 : ¬ (60 : Int) < (len : Int) + (len1 : Int) := by omega
  obtain ⟨hl40, hsm, h600⟩ := rightB_small HQR.out
  have HS8 : Hid (Small8 hs) := fun p hp => by have := hsm p hp; omega
  have hme : me.size ≤ 3000 := by omega
  have hrl : rl ≤ 60 := by have := HH.out.len_eq; omega
  have HME : Hid (me.size ≤ 3000 ∧ rl ≤ 60) := ⟨hme, hrl⟩
  obtain ⟨xs, HXS⟩ : ∃ xs, Hid (askedL hs = xs) := ⟨_, rfl⟩
  obtain ⟨mm, HMM⟩ : ∃ mm, Hid (methodB me = mm) := ⟨_, rfl⟩
  have HCV : Hid (∀ (l : List PsV) (a : Option Addr) (n c g o : Nat) (W : World), n ≤ 1000000 → Below w.heap.size w W → Pss W a n g o l → Calls Tryz.prog 23 #[.agg #[.int .i64 pt, .bool fs, .string fh, .int .i64 fp, .bool us, .string uh, .int .i64 up, .string pa, .string qu, .string me, .slice ra rl rc, .bool wi, .string bo], .slice a n c] W fun e w' => e = .returned (.bool (coversL wi mm xs l)) ∧ Below W.heap.size W w') := fun l a n c g o W hn hW hp => by
    have := covers9_any hs HS8.out ra rl rc rb ro HME.out.2 pt fp up fs us wi fh uh pa qu me bo HME.out.1 l a n c g o hn W (HENV.out W hW) (HH.out.below hW) hp
    rw [HMM.out, HXS.out] at this
    exact this
  clear hl40 hsm h600 HRF hme
  -- the rows behind each other
  have HB3 : Hid (Below w2.heap.size w2 (w2.alloc (.cells #[.slice a1 len1 cap1, .slice a0 len cap] 46))) := (Below.refl _ _).alloc (Nat.le_refl _) _
  have HQ3 : Hid (BoxQ 28 w #[.int .i64 pt, .bool fs, .string fh, .int .i64 fp, .bool us, .string uh, .int .i64 up, .string pa, .string qu, .string me, .slice ra rl rc, .bool wi, .string bo] (w2.alloc (.cells #[.slice a1 len1 cap1, .slice a0 len cap] 46))) := HQ2.out.step HB3.out
  have hcc := concatQ_two w2.heap.size a1 a0 len1 cap1 b1 off1 len cap b off qs ps (w2.alloc (.cells #[.slice a1 len1 cap1, .slice a0 len cap] 46)) (by simp) (World.cell?_alloc_mark _ _ _ _ _) (World.cell?_alloc_mark _ _ _ _ _) (HY.out.below HQ3.out.bel) (HX.out.below HQ3.out.bel) (by omega) (by omega)
  go_wp2_with fail
  refine hcc.mono ?_
  rintro e w4 ⟨v4, rfl, hown4, hb4⟩
  have HO4 : Hid (OwnQ w4 (w2.alloc (.cells #[.slice a1 len1 cap1, .slice a0 len cap] 46)).heap.size v4 (qs ++ ps)) := hown4
  have HB4 : Hid (Below w2.heap.size w2 w4) := HB3.out.trans (hb4.mono HB3.out.size)
  have hBl := hb4.size
  clear hown4 hb4 hcc HB3 HQ3
  go_wp2_with fail
  refine (reverseQ_own (qs ++ ps) _ v4 (by rw [List.length_append, HX.out.len_eq, HY.out.len_eq]; omega) w4 hBl HO4.out).mono ?_
  rintro e w5 ⟨rfl, h5⟩
  have HB5 : Hid (Below w2.heap.size w2 w5) := HB4.out.trans (h5.out.2.mono (by simp))
  obtain ⟨xa, xc, xg, rfl, hps5⟩ := OwnQ.pss h5.out.1
  obtain ⟨n5, HN5⟩ : ∃ n5, Hid (((qs ++ ps).reverse).length = n5) := ⟨_, rfl⟩
  have hn5 : n5 ≤ 1000 := by rw [← HN5.out, List.length_reverse, List.length_append, HX.out.len_eq, HY.out.len_eq]; omega
  rw [HN5.out] at hps5
  have HP5 : Hid (Pss w5 xa n5 xg 0 (qs ++ ps).reverse) := hps5
  have HQ5 : Hid (BoxQ 28 w #[.int .i64 pt, .bool fs, .string fh, .int .i64 fp, .bool us, .string uh, .int .i64 up, .string pa, .string qu, .string me, .slice ra rl rc, .bool wi, .string bo] w5) := HQ2.out.step HB5.out
  clear h5 hps5 HO4 HB4 hBl HQ2 HB5
  rw [HN5.out]
  have k0 := HQ5.out.at 0 _ rfl
  have k1 := HQ5.out.at 1 _ rfl
  have k2 := HQ5.out.at 2 _ rfl
  have k3 := HQ5.out.at 3 _ rfl
  have k4 := HQ5.out.at 4 _ rfl
  have k5 := HQ5.out.at 5 _ rfl
  have k6 := HQ5.out.at 6 _ rfl
  have k7 := HQ5.out.at 7 _ rfl
  have k8 := HQ5.out.at 8 _ rfl
  have k9 := HQ5.out.at 9 _ rfl
  have k10 := HQ5.out.at 10 _ rfl
  have k11 := HQ5.out.at 11 _ rfl
  have k12 := HQ5.out.at 12 _ rfl
  obtain ⟨c, HC⟩ : ∃ c, Hid (coversL wi mm xs ps = c) := ⟨_, rfl⟩
  go_wp2_with fail
  refine (HCV.out ps _ _ _ _ _ _ (by omega) HQ5.out.bel (HX.out.below HQ5.out.bel)).mono ?_
  rintro e w6 ⟨rfl, hb6⟩
  have HQ6 : Hid (BoxQ 28 w #[.int .i64 pt, .bool fs, .string fh, .int .i64 fp, .bool us, .string uh, .int .i64 up, .string pa, .string qu, .string me, .slice ra rl rc, .bool wi, .string bo] w6) := HQ5.out.step hb6
  have HP6 : Hid (Pss w6 xa n5 xg 0 (qs ++ ps).reverse) := HP5.out.below hb6
  clear hb6 HQ5 HP5 k0 k1 k2 k3 k4 k5 k6 k7 k8 k9 k10 k11 k12
  rw [HC.out]
  have HCA : Hid (c = true → coversL wi mm xs (qs ++ ps).reverse = true) := fun h => coversL_more (fun p hp => by simp [hp]) (HC.out.trans h)
  have k0 := HQ6.out.at 0 _ rfl
  have k1 := HQ6.out.at 1 _ rfl
  have k2 := HQ6.out.at 2 _ rfl
  have k3 := HQ6.out.at 3 _ rfl
  have k4 := HQ6.out.at 4 _ rfl
  have k5 := HQ6.out.at 5 _ rfl
  have k6 := HQ6.out.at 6 _ rfl
  have k7 := HQ6.out.at 7 _ rfl
  have k8 := HQ6.out.at 8 _ rfl
  have k9 := HQ6.out.at 9 _ rfl
  have k10 := HQ6.out.at 10 _ rfl
  have k11 := HQ6.out.at 11 _ rfl
  have k12 := HQ6.out.at 12 _ rfl
  cases c
  · skip
    by_cases hr0 : rl = 0
    · have hg0 : ¬ (0 : Int) < (rl : Int) := by omega
      subst hr0
      have HQA : Hid (BoxQ 28 w #[.int .i64 pt, .bool fs, .string fh, .int .i64 fp, .bool us, .string uh, .int .i64 up, .string pa, .string qu, .string me, .slice ra 0 rc, .bool wi, .string bo] (w6.alloc (.cells #[.int .i64 pt, .bool fs, .string fh, .int .i64 fp, .bool us, .string uh, .int .i64 up, .string pa, .string qu, .string me, .slice ra 0 rc, .bool wi, .string bo] 28))) := HQ6.out.step ((Below.refl _ _).alloc (Nat.le_refl _) _)
      have HNA : Hid (BoxQ 28 w6 #[.int .i64 pt, .bool fs, .string fh, .int .i64 fp, .bool us, .string uh, .int .i64 up, .string pa, .string qu, .string me, .slice ra 0 rc, .bool wi, .string bo] (w6.alloc (.cells #[.int .i64 pt, .bool fs, .string fh, .int .i64 fp, .bool us, .string uh, .int .i64 up, .string pa, .string qu, .string me, .slice ra 0 rc, .bool wi, .string bo] 28))) := BoxQ.new _ _ _
      have HQM : Hid (BoxQ 28 w #[.int .i64 pt, .bool fs, .string fh, .int .i64 fp, .bool us, .string uh, .int .i64 up, .string pa, .string qu, .string me, .slice ra 0 rc, .bool wi, .string bo] (w6.alloc (.cells #[.int .i64 pt, .bool fs, .string fh, .int .i64 fp, .bool us, .string uh, .int .i64 up, .string pa, .string qu, .string me, .slice ra 0 rc, .bool wi, .string bo] 28))) := HQ6.out.step ((Below.refl _ _).alloc (Nat.le_refl _) _)
      have l10 := HQM.out.at 10 _ rfl
      have m0 := HQA.out.at 0 _ rfl
      have m1 := HQA.out.at 1 _ rfl
      have m2 := HQA.out.at 2 _ rfl
      have m3 := HQA.out.at 3 _ rfl
      have m4 := HQA.out.at 4 _ rfl
      have m5 := HQA.out.at 5 _ rfl
      have m6 := HQA.out.at 6 _ rfl
      have m7 := HQA.out.at 7 _ rfl
      have m8 := HQA.out.at 8 _ rfl
      have m9 := HQA.out.at 9 _ rfl
      have m10 := HQA.out.at 10 _ rfl
      have m11 := HQA.out.at 11 _ rfl
      have m12 := HQA.out.at 12 _ rfl
      have n0 := HNA.out.at 0 _ rfl
      have n1 := HNA.out.at 1 _ rfl
      have n2 := HNA.out.at 2 _ rfl
      have n3 := HNA.out.at 3 _ rfl
      have n4 := HNA.out.at 4 _ rfl
      have n5 := HNA.out.at 5 _ rfl
      have n6 := HNA.out.at 6 _ rfl
      have n7 := HNA.out.at 7 _ rfl
      have n8 := HNA.out.at 8 _ rfl
      have n9 := HNA.out.at 9 _ rfl
      have n10 := HNA.out.at 10 _ rfl
      have n11 := HNA.out.at 11 _ rfl
      have n12 := HNA.out.at 12 _ rfl
      go_wp2_with fail
      refine (HCV.out ps _ _ _ _ _ _ (by omega) HQA.out.bel (HX.out.below HQA.out.bel)).mono ?_
      rintro e w8 ⟨rfl, hb8⟩
      have HQ8 : Hid (BoxQ 28 w #[.int .i64 pt, .bool fs, .string fh, .int .i64 fp, .bool us, .string uh, .int .i64 up, .string pa, .string qu, .string me, .slice ra 0 rc, .bool wi, .string bo] w8) := HQA.out.step hb8
      have HN8 : Hid (BoxQ 28 w6 #[.int .i64 pt, .bool fs, .string fh, .int .i64 fp, .bool us, .string uh, .int .i64 up, .string pa, .string qu, .string me, .slice ra 0 rc, .bool wi, .string bo] w8) := HNA.out.step hb8
      rw [HC.out]
      clear hb8
      clear m0 m1 m2 m3 m4 m5 m6 m7 m8 m9 m10 m11 m12 l10
      clear n0 n1 n2 n3 n4 n5 n6 n7 n8 n9 n10 n11 n12
      go_wp2
      go_ret
      exact ⟨rfl, HQ8.out.bel⟩
    · have hg0 : (0 : Int) < (rl : Int) := by omega
      have hg1 : (1 : Int) ≤ (rl : Int) := by omega
      obtain ⟨rfl, _⟩ := HH.out.lies (by omega)
      obtain ⟨hrc1, hrc2⟩ := hrc
      cases hs with
      | nil => exact absurd HH.out.len_eq (by simp; omega)
      | cons h0 t =>
        by_cases hrc3 : rc = 1
        · subst hrc3
          obtain rfl : rl = 1 := by omega
          have HQA : Hid (BoxQ 28 w #[.int .i64 pt, .bool fs, .string fh, .int .i64 fp, .bool us, .string uh, .int .i64 up, .string pa, .string qu, .string me, .slice (some ⟨rb, ro, none⟩) 1 1, .bool wi, .string bo] (w6.alloc (.cells #[.int .i64 pt, .bool fs, .string fh, .int .i64 fp, .bool us, .string uh, .int .i64 up, .string pa, .string qu, .string me, .slice (some ⟨rb, ro, none⟩) 0 0, .bool wi, .string bo] 28))) := HQ6.out.step ((Below.refl _ _).alloc (Nat.le_refl _) _)
          have HNA : Hid (BoxQ 28 w6 #[.int .i64 pt, .bool fs, .string fh, .int .i64 fp, .bool us, .string uh, .int .i64 up, .string pa, .string qu, .string me, .slice (some ⟨rb, ro, none⟩) 0 0, .bool wi, .string bo] (w6.alloc (.cells #[.int .i64 pt, .bool fs, .string fh, .int .i64 fp, .bool us, .string uh, .int .i64 up, .string pa, .string qu, .string me, .slice (some ⟨rb, ro, none⟩) 0 0, .bool wi, .string bo] 28))) := BoxQ.new _ _ _
          have HQM : Hid (BoxQ 28 w #[.int .i64 pt, .bool fs, .string fh, .int .i64 fp, .bool us, .string uh, .int .i64 up, .string pa, .string qu, .string me, .slice (some ⟨rb, ro, none⟩) 1 1, .bool wi, .string bo] (w6.alloc (.cells #[.int .i64 pt, .bool fs, .string fh, .int .i64 fp, .bool us, .string uh, .int .i64 up, .string pa, .string qu, .string me, .slice (some ⟨rb, ro, none⟩) 1 1, .bool wi, .string bo] 28))) := HQ6.out.step ((Below.refl _ _).alloc (Nat.le_refl _) _)
          have l10 := HQM.out.at 10 _ rfl
          have m0 := HQA.out.at 0 _ rfl
          have m1 := HQA.out.at 1 _ rfl
          have m2 := HQA.out.at 2 _ rfl
          have m3 := HQA.out.at 3 _ rfl
          have m4 := HQA.out.at 4 _ rfl
          have m5 := HQA.out.at 5 _ rfl
          have m6 := HQA.out.at 6 _ rfl
          have m7 := HQA.out.at 7 _ rfl
          have m8 := HQA.out.at 8 _ rfl
          have m9 := HQA.out.at 9 _ rfl
          have m10 := HQA.out.at 10 _ rfl
          have m11 := HQA.out.at 11 _ rfl
          have m12 := HQA.out.at 12 _ rfl
          have n0 := HNA.out.at 0 _ rfl
          have n1 := HNA.out.at 1 _ rfl
          have n2 := HNA.out.at 2 _ rfl
          have n3 := HNA.out.at 3 _ rfl
          have n4 := HNA.out.at 4 _ rfl
          have n5 := HNA.out.at 5 _ rfl
          have n6 := HNA.out.at 6 _ rfl
          have n7 := HNA.out.at 7 _ rfl
          have n8 := HNA.out.at 8 _ rfl
          have n9 := HNA.out.at 9 _ rfl
          have n10 := HNA.out.at 10 _ rfl
          have n11 := HNA.out.at 11 _ rfl
          have n12 := HNA.out.at 12 _ rfl
          go_wp2_with fail
          refine (HCV.out ps _ _ _ _ _ _ (by omega) HQA.out.bel (HX.out.below HQA.out.bel)).mono ?_
          rintro e w8 ⟨rfl, hb8⟩
          have HQ8 : Hid (BoxQ 28 w #[.int .i64 pt, .bool fs, .string fh, .int .i64 fp, .bool us, .string uh, .int .i64 up, .string pa, .string qu, .string me, .slice (some ⟨rb, ro, none⟩) 1 1, .bool wi, .string bo] w8) := HQA.out.step hb8
          have HN8 : Hid (BoxQ 28 w6 #[.int .i64 pt, .bool fs, .string fh, .int .i64 fp, .bool us, .string uh, .int .i64 up, .string pa, .string qu, .string me, .slice (some ⟨rb, ro, none⟩) 0 0, .bool wi, .string bo] w8) := HNA.out.step hb8
          rw [HC.out]
          clear hb8
          clear m0 m1 m2 m3 m4 m5 m6 m7 m8 m9 m10 m11 m12 l10
          clear n0 n1 n2 n3 n4 n5 n6 n7 n8 n9 n10 n11 n12
          go_wp2
          go_ret
          exact ⟨rfl, HQ8.out.bel⟩
        · have hrc4 : ¬ rc - 1 = 0 := by omega
          have HQA : Hid (BoxQ 28 w #[.int .i64 pt, .bool fs, .string fh, .int .i64 fp, .bool us, .string uh, .int .i64 up, .string pa, .string qu, .string me, .slice (some ⟨rb, ro, none⟩) rl rc, .bool wi, .string bo] (w6.alloc (.cells #[.int .i64 pt, .bool fs, .string fh, .int .i64 fp, .bool us, .string uh, .int .i64 up, .string pa, .string qu, .string me, .slice (some ⟨rb, ro + 2, none⟩) (rl - 1) (rc - 1), .bool wi, .string bo] 28))) := HQ6.out.step ((Below.refl _ _).alloc (Nat.le_refl _) _)
          have HNA : Hid (BoxQ 28 w6 #[.int .i64 pt, .bool fs, .string fh, .int .i64 fp, .bool us, .string uh, .int .i64 up, .string pa, .string qu, .string me, .slice (some ⟨rb, ro + 2, none⟩) (rl - 1) (rc - 1), .bool wi, .string bo] (w6.alloc (.cells #[.int .i64 pt, .bool fs, .string fh, .int .i64 fp, .bool us, .string uh, .int .i64 up, .string pa, .string qu, .string me, .slice (some ⟨rb, ro + 2, none⟩) (rl - 1) (rc - 1), .bool wi, .string bo] 28))) := BoxQ.new _ _ _
          have HQM : Hid (BoxQ 28 w #[.int .i64 pt, .bool fs, .string fh, .int .i64 fp, .bool us, .string uh, .int .i64 up, .string pa, .string qu, .string me, .slice (some ⟨rb, ro, none⟩) rl rc, .bool wi, .string bo] (w6.alloc (.cells #[.int .i64 pt, .bool fs, .string fh, .int .i64 fp, .bool us, .string uh, .int .i64 up, .string pa, .string qu, .string me, .slice (some ⟨rb, ro, none⟩) rl rc, .bool wi, .string bo] 28))) := HQ6.out.step ((Below.refl _ _).alloc (Nat.le_refl _) _)
          have l10 := HQM.out.at 10 _ rfl
          have m0 := HQA.out.at 0 _ rfl
          have m1 := HQA.out.at 1 _ rfl
          have m2 := HQA.out.at 2 _ rfl
          have m3 := HQA.out.at 3 _ rfl
          have m4 := HQA.out.at 4 _ rfl
          have m5 := HQA.out.at 5 _ rfl
          have m6 := HQA.out.at 6 _ rfl
          have m7 := HQA.out.at 7 _ rfl
          have m8 := HQA.out.at 8 _ rfl
          have m9 := HQA.out.at 9 _ rfl
          have m10 := HQA.out.at 10 _ rfl
          have m11 := HQA.out.at 11 _ rfl
          have m12 := HQA.out.at 12 _ rfl
          have n0 := HNA.out.at 0 _ rfl
          have n1 := HNA.out.at 1 _ rfl
          have n2 := HNA.out.at 2 _ rfl
          have n3 := HNA.out.at 3 _ rfl
          have n4 := HNA.out.at 4 _ rfl
          have n5 := HNA.out.at 5 _ rfl
          have n6 := HNA.out.at 6 _ rfl
          have n7 := HNA.out.at 7 _ rfl
          have n8 := HNA.out.at 8 _ rfl
          have n9 := HNA.out.at 9 _ rfl
          have n10 := HNA.out.at 10 _ rfl
          have n11 := HNA.out.at 11 _ rfl
          have n12 := HNA.out.at 12 _ rfl
          go_wp2_with fail
          refine (HCV.out ps _ _ _ _ _ _ (by omega) HQA.out.bel (HX.out.below HQA.out.bel)).mono ?_
          rintro e w8 ⟨rfl, hb8⟩
          have HQ8 : Hid (BoxQ 28 w #[.int .i64 pt, .bool fs, .string fh, .int .i64 fp, .bool us, .string uh, .int .i64 up, .string pa, .string qu, .string me, .slice (some ⟨rb, ro, none⟩) rl rc, .bool wi, .string bo] w8) := HQA.out.step hb8
          have HN8 : Hid (BoxQ 28 w6 #[.int .i64 pt, .bool fs, .string fh, .int .i64 fp, .bool us, .string uh, .int .i64 up, .string pa, .string qu, .string me, .slice (some ⟨rb, ro + 2, none⟩) (rl - 1) (rc - 1), .bool wi, .string bo] w8) := HNA.out.step hb8
          rw [HC.out]
          clear hb8
          clear m0 m1 m2 m3 m4 m5 m6 m7 m8 m9 m10 m11 m12 l10
          clear n0 n1 n2 n3 n4 n5 n6 n7 n8 n9 n10 n11 n12
          go_wp2
          go_ret
          exact ⟨rfl, HQ8.out.bel⟩
  · skip
    go_wp2_with fail
    refine (HCV.out _ _ _ _ _ _ _ (by omega) HQ6.out.bel HP6.out).mono ?_
    rintro e w7 ⟨rfl, hb7⟩
    rw [HCA.out (by first | rfl | trivial)]
    have HQ7 : Hid (BoxQ 28 w #[.int .i64 pt, .bool fs, .string fh, .int .i64 fp, .bool us, .string uh, .int .i64 up, .string pa, .string qu, .string me, .slice ra rl rc, .bool wi, .string bo] w7) := HQ6.out.step hb7
    clear hb7 k0 k1 k2 k3 k4 k5 k6 k7 k8 k9 k10 k11 k12
    have k0 := HQ7.out.at 0 _ rfl
    have k1 := HQ7.out.at 1 _ rfl
    have k2 := HQ7.out.at 2 _ rfl
    have k3 := HQ7.out.at 3 _ rfl
    have k4 := HQ7.out.at 4 _ rfl
    have k5 := HQ7.out.at 5 _ rfl
    have k6 := HQ7.out.at 6 _ rfl
    have k7 := HQ7.out.at 7 _ rfl
    have k8 := HQ7.out.at 8 _ rfl
    have k9 := HQ7.out.at 9 _ rfl
    have k10 := HQ7.out.at 10 _ rfl
    have k11 := HQ7.out.at 11 _ rfl
    have k12 := HQ7.out.at 12 _ rfl
    by_cases hr0 : rl = 0
    · have hg0 : ¬ (0 : Int) < (rl : Int) := by omega
      subst hr0
      have HSECOND : coversL wi mm xs ps = true := HC.out
      have HQA : Hid (BoxQ 28 w #[.int .i64 pt, .bool fs, .string fh, .int .i64 fp, .bool us, .string uh, .int .i64 up, .string pa, .string qu, .string me, .slice ra 0 rc, .bool wi, .string bo] (w7.alloc (.cells #[.int .i64 pt, .bool fs, .string fh, .int .i64 fp, .bool us, .string uh, .int .i64 up, .string pa, .string qu, .string me, .slice ra 0 rc, .bool wi, .string bo] 28))) := HQ7.out.step ((Below.refl _ _).alloc (Nat.le_refl _) _)
      have HNA : Hid (BoxQ 28 w7 #[.int .i64 pt, .bool fs, .string fh, .int .i64 fp, .bool us, .string uh, .int .i64 up, .string pa, .string qu, .string me, .slice ra 0 rc, .bool wi, .string bo] (w7.alloc (.cells #[.int .i64 pt, .bool fs, .string fh, .int .i64 fp, .bool us, .string uh, .int .i64 up, .string pa, .string qu, .string me, .slice ra 0 rc, .bool wi, .string bo] 28))) := BoxQ.new _ _ _
      have HQM : Hid (BoxQ 28 w #[.int .i64 pt, .bool fs, .string fh, .int .i64 fp, .bool us, .string uh, .int .i64 up, .string pa, .string qu, .string me, .slice ra 0 rc, .bool wi, .string bo] (w7.alloc (.cells #[.int .i64 pt, .bool fs, .string fh, .int .i64 fp, .bool us, .string uh, .int .i64 up, .string pa, .string qu, .string me, .slice ra 0 rc, .bool wi, .string bo] 28))) := HQ7.out.step ((Below.refl _ _).alloc (Nat.le_refl _) _)
      have l10 := HQM.out.at 10 _ rfl
      have m0 := HQA.out.at 0 _ rfl
      have m1 := HQA.out.at 1 _ rfl
      have m2 := HQA.out.at 2 _ rfl
      have m3 := HQA.out.at 3 _ rfl
      have m4 := HQA.out.at 4 _ rfl
      have m5 := HQA.out.at 5 _ rfl
      have m6 := HQA.out.at 6 _ rfl
      have m7 := HQA.out.at 7 _ rfl
      have m8 := HQA.out.at 8 _ rfl
      have m9 := HQA.out.at 9 _ rfl
      have m10 := HQA.out.at 10 _ rfl
      have m11 := HQA.out.at 11 _ rfl
      have m12 := HQA.out.at 12 _ rfl
      have n0 := HNA.out.at 0 _ rfl
      have n1 := HNA.out.at 1 _ rfl
      have n2 := HNA.out.at 2 _ rfl
      have n3 := HNA.out.at 3 _ rfl
      have n4 := HNA.out.at 4 _ rfl
      have n5 := HNA.out.at 5 _ rfl
      have n6 := HNA.out.at 6 _ rfl
      have n7 := HNA.out.at 7 _ rfl
      have n8 := HNA.out.at 8 _ rfl
      have n9 := HNA.out.at 9 _ rfl
      have n10 := HNA.out.at 10 _ rfl
      have n11 := HNA.out.at 11 _ rfl
      have n12 := HNA.out.at 12 _ rfl
      go_wp2_with fail
      refine (HCV.out ps _ _ _ _ _ _ (by omega) HQA.out.bel (HX.out.below HQA.out.bel)).mono ?_
      rintro e w8 ⟨rfl, hb8⟩
      have HQ8 : Hid (BoxQ 28 w #[.int .i64 pt, .bool fs, .string fh, .int .i64 fp, .bool us, .string uh, .int .i64 up, .string pa, .string qu, .string me, .slice ra 0 rc, .bool wi, .string bo] w8) := HQA.out.step hb8
      have HN8 : Hid (BoxQ 28 w7 #[.int .i64 pt, .bool fs, .string fh, .int .i64 fp, .bool us, .string uh, .int .i64 up, .string pa, .string qu, .string me, .slice ra 0 rc, .bool wi, .string bo] w8) := HNA.out.step hb8
      rw [HC.out]
      clear hb8
      clear m0 m1 m2 m3 m4 m5 m6 m7 m8 m9 m10 m11 m12 l10
      clear n0 n1 n2 n3 n4 n5 n6 n7 n8 n9 n10 n11 n12
      have n0 := HN8.out.at 0 _ rfl
      have n1 := HN8.out.at 1 _ rfl
      have n2 := HN8.out.at 2 _ rfl
      have n3 := HN8.out.at 3 _ rfl
      have n4 := HN8.out.at 4 _ rfl
      have n5 := HN8.out.at 5 _ rfl
      have n6 := HN8.out.at 6 _ rfl
      have n7 := HN8.out.at 7 _ rfl
      have n8 := HN8.out.at 8 _ rfl
      have n9 := HN8.out.at 9 _ rfl
      have n10 := HN8.out.at 10 _ rfl
      have n11 := HN8.out.at 11 _ rfl
      have n12 := HN8.out.at 12 _ rfl
      go_wp2_with fail
      refine (HCV.out ps _ _ _ _ _ _ (by omega) HQ8.out.bel (HX.out.below HQ8.out.bel)).mono ?_
      rintro e w9 ⟨rfl, hb9⟩
      have HQ9 : Hid (BoxQ 28 w #[.int .i64 pt, .bool fs, .string fh, .int .i64 fp, .bool us, .string uh, .int .i64 up, .string pa, .string qu, .string me, .slice ra 0 rc, .bool wi, .string bo] w9) := HQ8.out.step hb9
      rw [HSECOND]
      clear hb9
      go_wp2
      go_ret
      exact ⟨rfl, HQ9.out.bel⟩
    · have hg0 : (0 : Int) < (rl : Int) := by omega
      have hg1 : (1 : Int) ≤ (rl : Int) := by omega
      obtain ⟨rfl, _⟩ := HH.out.lies (by omega)
      obtain ⟨hrc1, hrc2⟩ := hrc
      cases hs with
      | nil => exact absurd HH.out.len_eq (by simp; omega)
      | cons h0 t =>
        have HSECOND : coversL wi mm (askedL t) ps = true := coversL_less (fun y hy => by rw [← HXS.out]; exact asked_tail h0 t y hy) HC.out
        have HTL : Hid (Pars w (some ⟨rb, ro + 2, none⟩) (rl - 1) rb (ro + 2) t) := HH.out.tail
        have HS8T : Hid (Small8 t) := fun p hp => HS8.out p (List.mem_cons_of_mem _ hp)
        by_cases hrc3 : rc = 1
        · subst hrc3
          obtain rfl : rl = 1 := by omega
          have HTA : Hid (Pars w (some ⟨rb, ro, none⟩) 0 rb (ro + 2) t) := ⟨HTL.out.len_eq, fun h => absurd h (by omega), HTL.out.one, HTL.out.two⟩
          have HQA : Hid (BoxQ 28 w #[.int .i64 pt, .bool fs, .string fh, .int .i64 fp, .bool us, .string uh, .int .i64 up, .string pa, .string qu, .string me, .slice (some ⟨rb, ro, none⟩) 1 1, .bool wi, .string bo] (w7.alloc (.cells #[.int .i64 pt, .bool fs, .string fh, .int .i64 fp, .bool us, .string uh, .int .i64 up, .string pa, .string qu, .string me, .slice (some ⟨rb, ro, none⟩) 0 0, .bool wi, .string bo] 28))) := HQ7.out.step ((Below.refl _ _).alloc (Nat.le_refl _) _)
          have HNA : Hid (BoxQ 28 w7 #[.int .i64 pt, .bool fs, .string fh, .int .i64 fp, .bool us, .string uh, .int .i64 up, .string pa, .string qu, .string me, .slice (some ⟨rb, ro, none⟩) 0 0, .bool wi, .string bo] (w7.alloc (.cells #[.int .i64 pt, .bool fs, .string fh, .int .i64 fp, .bool us, .string uh, .int .i64 up, .string pa, .string qu, .string me, .slice (some ⟨rb, ro, none⟩) 0 0, .bool wi, .string bo] 28))) := BoxQ.new _ _ _
          have HQM : Hid (BoxQ 28 w #[.int .i64 pt, .bool fs, .string fh, .int .i64 fp, .bool us, .string uh, .int .i64 up, .string pa, .string qu, .string me, .slice (some ⟨rb, ro, none⟩) 1 1, .bool wi, .string bo] (w7.alloc (.cells #[.int .i64 pt, .bool fs, .string fh, .int .i64 fp, .bool us, .string uh, .int .i64 up, .string pa, .string qu, .string me, .slice (some ⟨rb, ro, none⟩) 1 1, .bool wi, .string bo] 28))) := HQ7.out.step ((Below.refl _ _).alloc (Nat.le_refl _) _)
          have l10 := HQM.out.at 10 _ rfl
          have m0 := HQA.out.at 0 _ rfl
          have m1 := HQA.out.at 1 _ rfl
          have m2 := HQA.out.at 2 _ rfl
          have m3 := HQA.out.at 3 _ rfl
          have m4 := HQA.out.at 4 _ rfl
          have m5 := HQA.out.at 5 _ rfl
          have m6 := HQA.out.at 6 _ rfl
          have m7 := HQA.out.at 7 _ rfl
          have m8 := HQA.out.at 8 _ rfl
          have m9 := HQA.out.at 9 _ rfl
          have m10 := HQA.out.at 10 _ rfl
          have m11 := HQA.out.at 11 _ rfl
          have m12 := HQA.out.at 12 _ rfl
          have n0 := HNA.out.at 0 _ rfl
          have n1 := HNA.out.at 1 _ rfl
          have n2 := HNA.out.at 2 _ rfl
          have n3 := HNA.out.at 3 _ rfl
          have n4 := HNA.out.at 4 _ rfl
          have n5 := HNA.out.at 5 _ rfl
          have n6 := HNA.out.at 6 _ rfl
          have n7 := HNA.out.at 7 _ rfl
          have n8 := HNA.out.at 8 _ rfl
          have n9 := HNA.out.at 9 _ rfl
          have n10 := HNA.out.at 10 _ rfl
          have n11 := HNA.out.at 11 _ rfl
          have n12 := HNA.out.at 12 _ rfl
          go_wp2_with fail
          refine (HCV.out ps _ _ _ _ _ _ (by omega) HQA.out.bel (HX.out.below HQA.out.bel)).mono ?_
          rintro e w8 ⟨rfl, hb8⟩
          have HQ8 : Hid (BoxQ 28 w #[.int .i64 pt, .bool fs, .string fh, .int .i64 fp, .bool us, .string uh, .int .i64 up, .string pa, .string qu, .string me, .slice (some ⟨rb, ro, none⟩) 1 1, .bool wi, .string bo] w8) := HQA.out.step hb8
          have HN8 : Hid (BoxQ 28 w7 #[.int .i64 pt, .bool fs, .string fh, .int .i64 fp, .bool us, .string uh, .int .i64 up, .string pa, .string qu, .string me, .slice (some ⟨rb, ro, none⟩) 0 0, .bool wi, .string bo] w8) := HNA.out.step hb8
          rw [HC.out]
          clear hb8
          clear m0 m1 m2 m3 m4 m5 m6 m7 m8 m9 m10 m11 m12 l10
          clear n0 n1 n2 n3 n4 n5 n6 n7 n8 n9 n10 n11 n12
          have n0 := HN8.out.at 0 _ rfl
          have n1 := HN8.out.at 1 _ rfl
          have n2 := HN8.out.at 2 _ rfl
          have n3 := HN8.out.at 3 _ rfl
          have n4 := HN8.out.at 4 _ rfl
          have n5 := HN8.out.at 5 _ rfl
          have n6 := HN8.out.at 6 _ rfl
          have n7 := HN8.out.at 7 _ rfl
          have n8 := HN8.out.at 8 _ rfl
          have n9 := HN8.out.at 9 _ rfl
          have n10 := HN8.out.at 10 _ rfl
          have n11 := HN8.out.at 11 _ rfl
          have n12 := HN8.out.at 12 _ rfl
          go_wp2_with fail
          have hcv2 := covers9_any t HS8T.out (some ⟨rb, ro, none⟩) 0 0 rb (ro + 2) (by have := HME.out.2; omega) pt fp up fs us wi fh uh pa qu me bo HME.out.1 ps a0 len cap b off (by omega) w8 (HENV.out w8 HQ8.out.bel) (HTA.out.below HQ8.out.bel) (HX.out.below HQ8.out.bel)
          rw [HMM.out] at hcv2
          refine hcv2.mono ?_
          rintro e w9 ⟨rfl, hb9⟩
          have HQ9 : Hid (BoxQ 28 w #[.int .i64 pt, .bool fs, .string fh, .int .i64 fp, .bool us, .string uh, .int .i64 up, .string pa, .string qu, .string me, .slice (some ⟨rb, ro, none⟩) 1 1, .bool wi, .string bo] w9) := HQ8.out.step hb9
          rw [HSECOND]
          clear hb9
          go_wp2
          go_ret
          exact ⟨rfl, HQ9.out.bel⟩
        · have hrc4 : ¬ rc - 1 = 0 := by omega
          have HTA : Hid (Pars w (some ⟨rb, ro + 2, none⟩) (rl - 1) rb (ro + 2) t) := HTL.out
          have HQA : Hid (BoxQ 28 w #[.int .i64 pt, .bool fs, .string fh, .int .i64 fp, .bool us, .string uh, .int .i64 up, .string pa, .string qu, .string me, .slice (some ⟨rb, ro, none⟩) rl rc, .bool wi, .string bo] (w7.alloc (.cells #[.int .i64 pt, .bool fs, .string fh, .int .i64 fp, .bool us, .string uh, .int .i64 up, .string pa, .string qu, .string me, .slice (some ⟨rb, ro + 2, none⟩) (rl - 1) (rc - 1), .bool wi, .string bo] 28))) := HQ7.out.step ((Below.refl _ _).alloc (Nat.le_refl _) _)
          have HNA : Hid (BoxQ 28 w7 #[.int .i64 pt, .bool fs, .string fh, .int .i64 fp, .bool us, .string uh, .int .i64 up, .string pa, .string qu, .string me, .slice (some ⟨rb, ro + 2, none⟩) (rl - 1) (rc - 1), .bool wi, .string bo] (w7.alloc (.cells #[.int .i64 pt, .bool fs, .string fh, .int .i64 fp, .bool us, .string uh, .int .i64 up, .string pa, .string qu, .string me, .slice (some ⟨rb, ro + 2, none⟩) (rl - 1) (rc - 1), .bool wi, .string bo] 28))) := BoxQ.new _ _ _
          have HQM : Hid (BoxQ 28 w #[.int .i64 pt, .bool fs, .string fh, .int .i64 fp, .bool us, .string uh, .int .i64 up, .string pa, .string qu, .string me, .slice (some ⟨rb, ro, none⟩) rl rc, .bool wi, .string bo] (w7.alloc (.cells #[.int .i64 pt, .bool fs, .string fh, .int .i64 fp, .bool us, .string uh, .int .i64 up, .string pa, .string qu, .string me, .slice (some ⟨rb, ro, none⟩) rl rc, .bool wi, .string bo] 28))) := HQ7.out.step ((Below.refl _ _).alloc (Nat.le_refl _) _)
          have l10 := HQM.out.at 10 _ rfl
          have m0 := HQA.out.at 0 _ rfl
          have m1 := HQA.out.at 1 _ rfl
          have m2 := HQA.out.at 2 _ rfl
          have m3 := HQA.out.at 3 _ rfl
          have m4 := HQA.out.at 4 _ rfl
          have m5 := HQA.out.at 5 _ rfl
          have m6 := HQA.out.at 6 _ rfl
          have m7 := HQA.out.at 7 _ rfl
          have m8 := HQA.out.at 8 _ rfl
          have m9 := HQA.out.at 9 _ rfl
          have m10 := HQA.out.at 10 _ rfl
          have m11 := HQA.out.at 11 _ rfl
          have m12 := HQA.out.at 12 _ rfl
          have n0 := HNA.out.at 0 _ rfl
          have n1 := HNA.out.at 1 _ rfl
          have n2 := HNA.out.at 2 _ rfl
          have n3 := HNA.out.at 3 _ rfl
          have n4 := HNA.out.at 4 _ rfl
          have n5 := HNA.out.at 5 _ rfl
          have n6 := HNA.out.at 6 _ rfl
          have n7 := HNA.out.at 7 _ rfl
          have n8 := HNA.out.at 8 _ rfl
          have n9 := HNA.out.at 9 _ rfl
          have n10 := HNA.out.at 10 _ rfl
          have n11 := HNA.out.at 11 _ rfl
          have n12 := HNA.out.at 12 _ rfl
          go_wp2_with fail
          refine (HCV.out ps _ _ _ _ _ _ (by omega) HQA.out.bel (HX.out.below HQA.out.bel)).mono ?_
          rintro e w8 ⟨rfl, hb8⟩
          have HQ8 : Hid (BoxQ 28 w #[.int .i64 pt, .bool fs, .string fh, .int .i64 fp, .bool us, .string uh, .int .i64 up, .string pa, .string qu, .string me, .slice (some ⟨rb, ro, none⟩) rl rc, .bool wi, .string bo] w8) := HQA.out.step hb8
          have HN8 : Hid (BoxQ 28 w7 #[.int .i64 pt, .bool fs, .string fh, .int .i64 fp, .bool us, .string uh, .int .i64 up, .string pa, .string qu, .string me, .slice (some ⟨rb, ro + 2, none⟩) (rl - 1) (rc - 1), .bool wi, .string bo] w8) := HNA.out.step hb8
          rw [HC.out]
          clear hb8
          clear m0 m1 m2 m3 m4 m5 m6 m7 m8 m9 m10 m11 m12 l10
          clear n0 n1 n2 n3 n4 n5 n6 n7 n8 n9 n10 n11 n12
          have n0 := HN8.out.at 0 _ rfl
          have n1 := HN8.out.at 1 _ rfl
          have n2 := HN8.out.at 2 _ rfl
          have n3 := HN8.out.at 3 _ rfl
          have n4 := HN8.out.at 4 _ rfl
          have n5 := HN8.out.at 5 _ rfl
          have n6 := HN8.out.at 6 _ rfl
          have n7 := HN8.out.at 7 _ rfl
          have n8 := HN8.out.at 8 _ rfl
          have n9 := HN8.out.at 9 _ rfl
          have n10 := HN8.out.at 10 _ rfl
          have n11 := HN8.out.at 11 _ rfl
          have n12 := HN8.out.at 12 _ rfl
          go_wp2_with fail
          have hcv2 := covers9_any t HS8T.out (some ⟨rb, ro + 2, none⟩) (rl - 1) (rc - 1) rb (ro + 2) (by have := HME.out.2; omega) pt fp up fs us wi fh uh pa qu me bo HME.out.1 ps a0 len cap b off (by omega) w8 (HENV.out w8 HQ8.out.bel) (HTA.out.below HQ8.out.bel) (HX.out.below HQ8.out.bel)
          rw [HMM.out] at hcv2
          refine hcv2.mono ?_
          rintro e w9 ⟨rfl, hb9⟩
          have HQ9 : Hid (BoxQ 28 w #[.int .i64 pt, .bool fs, .string fh, .int .i64 fp, .bool us, .string uh, .int .i64 up, .string pa, .string qu, .string me, .slice (some ⟨rb, ro, none⟩) rl rc, .bool wi, .string bo] w9) := HQ8.out.step hb9
          rw [HSECOND]
          clear hb9
          go_wp2
          go_ret
          exact ⟨rfl, HQ9.out.bel⟩
end Go.Proofs.YtoblpjknnchlmabGreatDoor

/- What came in: no text of it is longer than a machine can hold. -/
namespace Go.Proofs.YtoblpjknnchlmabGreatDoor
open Go.ChangeShapes Go.WideShapes Go.ChangeAt Go.RowKit Go.Joins

theorem laidOutP : laidOutB Tryz.prog = true := by kernel_rfl
theorem weightsAll_mem {H : Type} {P : Program} {e : TypeId} : ∀ {ds : List (DataW H)} {d : DataW H}, d ∈ ds → ∀ n ∈ d.weights P e, n ∈ DataW.weightsAll P e ds
  | d0 :: ds, d, hd, n, hn => by
    rw [DataW.weightsAll, List.mem_append]
    rcases List.mem_cons.1 hd with rfl | h
    · exact .inl hn
    · exact .inr (weightsAll_mem h n hn)
theorem weights_slice {H : Type} {t e : TypeId} (ht : Tryz.prog.underlying t = some (.slice e)) {ds es : List (DataW H)} {d : DataW H} (hd : d ∈ ds) : ∀ n ∈ d.weights Tryz.prog e, n ∈ (DataW.slice ds es).weights Tryz.prog t := by
  intro n hn
  rw [DataW.weights, ht]
  simp only [List.mem_cons, List.mem_append]
  exact .inr (.inl (weightsAll_mem hd n hn))
/-- No text of it is longer than a machine can hold. -/
def Reach {H : Type} (t : TypeId) (d : DataW H) : Prop := ∀ n ∈ d.weights Tryz.prog t, n ≤ 140737488355328
theorem reach_all {H : Type} {ts : List TypeId} {ds : List (DataW H)} (h : (DataW.weightsEach Tryz.prog ts ds).all (· ≤ reachBytes) = true) {j : Nat} {t : TypeId} {d : DataW H} (ht : ts[j]? = some t) (hd : ds[j]? = some d) : Reach t d := fun n hn => by
  have h1 := List.all_eq_true.1 h _ (DataW.weights_mem_each ht hd n hn)
  have h2 : n ≤ reachBytes := of_decide_eq_true h1
  have := reachBytes_lt
  have e3 : (2 : Nat) ^ 47 = 140737488355328 := by decide
  omega
theorem reach_string {H : Type} {t : TypeId} {s : ByteArray} (h : Reach (H := H) t (.lit (.string s.data.toList))) : s.size ≤ 140737488355328 := by
  have := h s.data.toList.length (by simp [DataW.weights])
  rw [Array.length_toList] at this
  exact this
def strOf : Value → ByteArray
  | .string s => s
  | _ => ⟨#[]⟩
end Go.Proofs.YtoblpjknnchlmabGreatDoor

/- Parameters that came in: one, and a row of them. -/
namespace Go.Proofs.YtoblpjknnchlmabGreatDoor
open Go.ChangeShapes Go.WideShapes Go.ChangeAt Go.RowKit Go.Joins

theorem cellsP : Tryz.prog.cellsOf 37 = 2 := by kernel_rfl
section
variable {H : Type} {enc : TypeId × Value → H} {W : World}
theorem open_pars {fuel : Nat} {v : Value} {x : DataW H × List MemPlace} (h : DataW.trod enc Tryz.prog W 0 (fun _ => true) true fuel 26 [v] = some x) :
    ∃ (a0 : Option Addr) (len cap b off : Nat) (ps : List Par), v = .slice a0 len cap ∧ (len ≤ cap ∧ cap ≤ 9223372036854775807) ∧ Pars W a0 len b off ps ∧ (Reach 26 x.1 → ∀ p ∈ ps, p.1.size ≤ 140737488355328 ∧ p.2.size ≤ 140737488355328) := by
  rcases Go.Deep.open_slice_pairs Tryz.underlying26 Tryz.underlying37 cellsP rfl rfl (by kernel_rfl) (by kernel_rfl) h with ⟨hcs, hx⟩ | ⟨a, len, cap, m, n, V0, V1, D0, D1, P0, P1, hcs, _, hl, hm, hmm, hx, hall⟩
  · simp only [List.cons.injEq, and_true] at hcs
    exact ⟨none, 0, 0, 0, 0, [], hcs, ⟨by omega, by omega⟩, ⟨rfl, fun h => absurd h (by omega), (fun j p hp => by simp at hp), (fun j p hp => by simp at hp)⟩, fun _ p hp => by cases hp⟩
  · simp only [List.cons.injEq, and_true] at hcs
    simp only [if_true] at hmm
    obtain rfl := hmm.symm
    unfold maxLen at hm
    have hS : ∀ i, i < len → V0 i = .string (strOf (V0 i)) ∧ V1 i = .string (strOf (V1 i)) ∧ D0 i = .lit (.string (strOf (V0 i)).data.toList) ∧ D1 i = .lit (.string (strOf (V1 i)).data.toList) := fun i hi => by
      obtain ⟨_, _, t0, t1⟩ := hall i (by omega)
      obtain ⟨s0, e0, x0, _⟩ := DataW.trod_string Tryz.underlying9 t0
      obtain ⟨s1, e1, x1, _⟩ := DataW.trod_string Tryz.underlying9 t1
      simp only [List.cons.injEq, and_true] at e0 e1
      simp only [Prod.mk.injEq] at x0 x1
      rw [e0, e1, x0.1, x1.1]
      exact ⟨rfl, rfl, rfl, rfl⟩
    obtain ⟨b, off, spot⟩ := a
    have hget : ∀ (j : Nat) (p : Par), ((List.range len).map fun i => ((strOf (V0 i), strOf (V1 i)) : Par))[j]? = some p → j < len ∧ p = (strOf (V0 j), strOf (V1 j)) := fun j p hp => by
      rw [List.getElem?_map] at hp
      by_cases hj : j < len
      · rw [List.getElem?_range hj] at hp
        simp only [Option.map_some, Option.some.injEq] at hp
        exact ⟨hj, hp.symm⟩
      · rw [List.getElem?_eq_none (by simp; omega)] at hp
        cases hp
    have hspot : 0 < len → spot = none := fun h0 => by simpa [Addr.add] using World.cell?_spot (hall 0 (by omega)).1
    refine ⟨some ⟨b, off, spot⟩, len, cap, b, off, (List.range len).map fun i => (strOf (V0 i), strOf (V1 i)), hcs, ⟨by omega, by omega⟩, ⟨by simp, fun h0 => ?_, fun j p hp => ?_, fun j p hp => ?_⟩, fun hr p hp => ?_⟩
    · obtain rfl := hspot h0
      refine ⟨rfl, ?_⟩
      have hc := (hall 0 (by omega)).1
      rcases Nat.lt_or_ge b W.heap.size with h1 | h1
      · exact h1
      · simp [World.cell?, Addr.add, Array.getElem?_eq_none h1] at hc
    · obtain ⟨hj, rfl⟩ := hget j p hp
      obtain rfl := hspot (by omega)
      rw [← add_plain]
      exact (hall j (by omega)).1.trans (congrArg some (hS j hj).1)
    · obtain ⟨hj, rfl⟩ := hget j p hp
      obtain rfl := hspot (by omega)
      rw [Nat.add_assoc, ← add_plain]
      exact (hall j (by omega)).2.1.trans (congrArg some (hS j hj).2.1)
    · obtain ⟨i, hi, rfl⟩ := List.mem_map.1 hp
      have hi' : i < len := List.mem_range.1 hi
      have hw : ∀ n ∈ (DataW.agg [D0 i, D1 i]).weights Tryz.prog 37, n ≤ 140737488355328 := fun n hn => by
        refine hr n ?_
        rw [hx]
        exact weights_slice Tryz.underlying26 (List.mem_map.2 ⟨i, hi, rfl⟩) n hn
      rw [(hS i hi').2.2.1, (hS i hi').2.2.2] at hw
      have w0 := hw (strOf (V0 i)).data.toList.length (by simp [DataW.weights, DataW.weightsEach, Tryz.underlying37])
      have w1 := hw (strOf (V1 i)).data.toList.length (by simp [DataW.weights, DataW.weightsEach, Tryz.underlying37])
      rw [Array.length_toList] at w0 w1
      exact ⟨w0, w1⟩
set_option maxRecDepth 100000 in
/-- A parameter that came in. -/
theorem open_param {b0 : Nat} {v : Value} {d : DataW H} {p : List MemPlace} (hv : Value.okWide Tryz.prog W .any b0 37 v) (h : DataW.Trod enc Tryz.prog W 0 (fun _ => true) true 37 v d p) :
    ∃ x y : ByteArray, v = .agg #[.string x, .string y] ∧ (Reach 37 d → x.size ≤ 140737488355328 ∧ y.size ≤ 140737488355328) := by
  obtain ⟨c0, c1, y0, y1, m, rfl, rfl, rfl, g0, g1⟩ := open_agg2 Tryz.underlying37 (by kernel_rfl) (by kernel_rfl) hv h
  obtain ⟨s0, e0, rfl, _⟩ := DataW.trod_string Tryz.underlying9 g0
  obtain ⟨s1, e1, rfl, _⟩ := DataW.trod_string Tryz.underlying9 g1
  simp only [List.cons.injEq, and_true] at e0 e1
  subst e0 e1
  refine ⟨s0, s1, rfl, fun hw => ?_⟩
  have w0 := hw s0.data.toList.length (by simp [DataW.weights, DataW.weightsEach, Tryz.underlying37])
  have w1 := hw s1.data.toList.length (by simp [DataW.weights, DataW.weightsEach, Tryz.underlying37])
  rw [Array.length_toList] at w0 w1
  exact ⟨w0, w1⟩
/-- A row of parameters that came in. -/
theorem open_parsT {v : Value} {d : DataW H} {p : List MemPlace} {a0 : Option Addr} {len cap : Nat} (h : DataW.Trod enc Tryz.prog W 0 (fun _ => true) true 26 v d p) (hv : v = .slice a0 len cap) :
    ∃ (b off : Nat) (ps : List Par), (len ≤ cap ∧ cap ≤ 9223372036854775807) ∧ Pars W a0 len b off ps ∧ (Reach 26 d → ∀ q ∈ ps, q.1.size ≤ 140737488355328 ∧ q.2.size ≤ 140737488355328) := by
  subst hv
  obtain ⟨fuel, hf⟩ := h
  obtain ⟨a1, n1, c1, b, off, ps, e, hl, hp, hr⟩ := open_pars (v := .slice a0 len cap) hf
  injection e with e1 e2 e3
  subst e1 e2 e3
  exact ⟨b, off, ps, hl, hp, hr⟩
end
end Go.Proofs.YtoblpjknnchlmabGreatDoor

/- A request that came in: opened, with its numbers' bounds. -/
namespace Go.Proofs.YtoblpjknnchlmabGreatDoor
open Go.ChangeShapes Go.WideShapes Go.ChangeAt Go.RowKit Go.Joins

theorem array13q {α : Type} {cs : Array α} (h : cs.size = 13) : ∃ c0 c1 c2 c3 c4 c5 c6 c7 c8 c9 c10 c11 c12, cs = #[c0, c1, c2, c3, c4, c5, c6, c7, c8, c9, c10, c11, c12] := by
  obtain ⟨l⟩ := cs
  match l, h with
  | [c0, c1, c2, c3, c4, c5, c6, c7, c8, c9, c10, c11, c12], _ => exact ⟨c0, c1, c2, c3, c4, c5, c6, c7, c8, c9, c10, c11, c12, rfl⟩
theorem list3q {α : Type} {l : List α} (h : l.length = 3) : ∃ c0 c1 c2, l = [c0, c1, c2] := by
  match l, h with
  | [c0, c1, c2], _ => exact ⟨c0, c1, c2, rfl⟩
theorem list7q {α : Type} {l : List α} (h : l.length = 7) : ∃ c0 c1 c2 c3 c4 c5 c6, l = [c0, c1, c2, c3, c4, c5, c6] := by
  match l, h with
  | [c0, c1, c2, c3, c4, c5, c6], _ => exact ⟨c0, c1, c2, c3, c4, c5, c6, rfl⟩
section
variable {H : Type} {enc : TypeId × Value → H} {W : World}
set_option maxRecDepth 100000 in
/-- An origin among the cells of a greater thing. -/
theorem open_orgAt9 {fuel : Nat} {c0 c1 c2 : Value} {x : DataW H × List MemPlace} (h : DataW.trod enc Tryz.prog W 0 (fun _ => true) true fuel 23 [c0, c1, c2] = some x) :
    ∃ (s : Bool) (t : ByteArray) (p : Int), c0 = .bool s ∧ c1 = .string t ∧ c2 = .int .i64 p ∧ x.1 = .agg [.lit (.bool s), .lit (.string t.data.toList), .lit (.int .i64 p)] ∧ (Lit.int .i64 p).wf = true := by
  obtain ⟨xs, n, rfl, rfl, _, hlen, hff⟩ := DataW.trod_struct Tryz.underlying23 h
  obtain ⟨y0, y1, y2, rfl⟩ := list3q (hlen.trans rfl)
  have g0 : DataW.trod enc Tryz.prog W 0 (fun _ => true) true n 4 [c0] = some y0 := hff 0 _ rfl
  have g1 : DataW.trod enc Tryz.prog W 0 (fun _ => true) true n 9 [c1] = some y1 := hff 1 _ rfl
  have g2 : DataW.trod enc Tryz.prog W 0 (fun _ => true) true n 3 [c2] = some y2 := hff 2 _ rfl
  obtain ⟨s, e0, rfl⟩ := DataW.trod_bool Tryz.underlying4 g0
  obtain ⟨t, e1, rfl, _⟩ := DataW.trod_string Tryz.underlying9 g1
  obtain ⟨p, e2, rfl, wp⟩ := DataW.trod_int Tryz.underlying3 g2
  simp only [List.cons.injEq, and_true] at e0 e1 e2
  exact ⟨s, t, p, e0, e1, e2, rfl, wp⟩
set_option maxRecDepth 100000 in
set_option maxHeartbeats 2000000 in
theorem open_req9 {b0 : Nat} {v : Value} {d : DataW H} {p : List MemPlace} (hv : Value.okWide Tryz.prog W .any b0 28 v) (h : DataW.Trod enc Tryz.prog W 0 (fun _ => true) true 28 v d p) :
    ∃ (pt fp up : Int) (fs us wi : Bool) (fh uh pa qu me bo : ByteArray) (a0 : Option Addr) (len cap b off : Nat) (ps : List Par),
      v = .agg #[.int .i64 pt, .bool fs, .string fh, .int .i64 fp, .bool us, .string uh, .int .i64 up, .string pa, .string qu, .string me, .slice a0 len cap, .bool wi, .string bo] ∧
      ((Lit.int .i64 pt).wf = true ∧ (Lit.int .i64 fp).wf = true ∧ (Lit.int .i64 up).wf = true) ∧ (len ≤ cap ∧ cap ≤ 9223372036854775807) ∧ Pars W a0 len b off ps ∧
      (Reach 28 d → (fh.size ≤ 140737488355328 ∧ uh.size ≤ 140737488355328 ∧ pa.size ≤ 140737488355328 ∧ qu.size ≤ 140737488355328 ∧ me.size ≤ 140737488355328 ∧ bo.size ≤ 140737488355328) ∧ ∀ q ∈ ps, q.1.size ≤ 140737488355328 ∧ q.2.size ≤ 140737488355328) := by
  obtain ⟨cs, rfl, hsz⟩ := okWide_struct Tryz.underlying28 hv
  obtain ⟨c0, c1, c2, c3, c4, c5, c6, c7, c8, c9, c10, c11, c12, rfl⟩ := array13q (hsz.trans (by kernel_rfl))
  obtain ⟨fuel, hf⟩ := h
  obtain ⟨xs, n, _, hx, _, hlen, hff⟩ := DataW.trod_struct Tryz.underlying28 hf
  obtain ⟨y0, y1, y2, y3, y4, y5, y6, rfl⟩ := list7q (hlen.trans rfl)
  simp only [Prod.mk.injEq] at hx
  have g0 : DataW.trod enc Tryz.prog W 0 (fun _ => true) true n 3 [c0] = some y0 := hff 0 _ rfl
  have g1 : DataW.trod enc Tryz.prog W 0 (fun _ => true) true n 23 [c1, c2, c3] = some y1 := hff 1 _ rfl
  have g2 : DataW.trod enc Tryz.prog W 0 (fun _ => true) true n 25 [c4, c5, c6, c7, c8] = some y2 := hff 2 _ rfl
  have g3 : DataW.trod enc Tryz.prog W 0 (fun _ => true) true n 9 [c9] = some y3 := hff 3 _ rfl
  have g4 : DataW.trod enc Tryz.prog W 0 (fun _ => true) true n 26 [c10] = some y4 := hff 4 _ rfl
  have g5 : DataW.trod enc Tryz.prog W 0 (fun _ => true) true n 4 [c11] = some y5 := hff 5 _ rfl
  have g6 : DataW.trod enc Tryz.prog W 0 (fun _ => true) true n 9 [c12] = some y6 := hff 6 _ rfl
  obtain ⟨pt, e0, rfl, wpt⟩ := DataW.trod_int Tryz.underlying3 g0
  obtain ⟨fs, fh, fp, rfl, rfl, rfl, x1, wfp⟩ := open_orgAt9 g1
  obtain ⟨us', m, rfl, hx2, _, hlen2, hff2⟩ := DataW.trod_struct Tryz.underlying25 g2
  obtain ⟨u0, u1, u2, rfl⟩ := list3q (hlen2.trans rfl)
  have q0 : DataW.trod enc Tryz.prog W 0 (fun _ => true) true m 23 [c4, c5, c6] = some u0 := hff2 0 _ rfl
  have q1 : DataW.trod enc Tryz.prog W 0 (fun _ => true) true m 9 [c7] = some u1 := hff2 1 _ rfl
  have q2 : DataW.trod enc Tryz.prog W 0 (fun _ => true) true m 9 [c8] = some u2 := hff2 2 _ rfl
  obtain ⟨us, uh, up, rfl, rfl, rfl, z0, wup⟩ := open_orgAt9 q0
  obtain ⟨pa, e7, rfl, _⟩ := DataW.trod_string Tryz.underlying9 q1
  obtain ⟨qu, e8, rfl, _⟩ := DataW.trod_string Tryz.underlying9 q2
  obtain ⟨me, e9, rfl, _⟩ := DataW.trod_string Tryz.underlying9 g3
  obtain ⟨a0, len, cap, b, off, ps, rfl, hl, hp, hr⟩ := open_pars g4
  obtain ⟨wi, e11, rfl⟩ := DataW.trod_bool Tryz.underlying4 g5
  obtain ⟨bo, e12, rfl, _⟩ := DataW.trod_string Tryz.underlying9 g6
  simp only [List.cons.injEq, and_true] at e0 e7 e8 e9 e11 e12
  subst e0 e7 e8 e9 e11 e12
  refine ⟨pt, fp, up, fs, us, wi, fh, uh, pa, qu, me, bo, a0, len, cap, b, off, ps, rfl, ⟨wpt, wfp, wup⟩, hl, hp, fun hw => ?_⟩
  have hd := hx.1
  simp only [List.map_cons, List.map_nil, x1, hx2, z0] at hd
  subst hd
  have w1 := hw fh.data.toList.length (by simp [DataW.weights, DataW.weightsEach, Tryz.underlying28, Tryz.underlying23])
  have w2 := hw uh.data.toList.length (by simp [DataW.weights, DataW.weightsEach, Tryz.underlying28, Tryz.underlying23, Tryz.underlying25])
  have w3 := hw pa.data.toList.length (by simp [DataW.weights, DataW.weightsEach, Tryz.underlying28, Tryz.underlying23, Tryz.underlying25])
  have w4 := hw qu.data.toList.length (by simp [DataW.weights, DataW.weightsEach, Tryz.underlying28, Tryz.underlying23, Tryz.underlying25])
  have w5 := hw me.data.toList.length (by simp [DataW.weights, DataW.weightsEach, Tryz.underlying28])
  have w6 := hw bo.data.toList.length (by simp [DataW.weights, DataW.weightsEach, Tryz.underlying28])
  rw [Array.length_toList] at w1 w2 w3 w4 w5 w6
  refine ⟨⟨w1, w2, w3, w4, w5, w6⟩, hr fun k hk => hw k ?_⟩
  simp only [DataW.weights, Tryz.underlying28]
  simp [DataW.weightsEach, hk]
end
end Go.Proofs.YtoblpjknnchlmabGreatDoor

/- Rows of passes that came in: opened. -/
namespace Go.Proofs.YtoblpjknnchlmabGreatDoor
open Go.ChangeShapes Go.WideShapes Go.ChangeAt Go.RowKit Go.Joins

theorem list6q {α : Type} {l : List α} (h : l.length = 6) : ∃ c0 c1 c2 c3 c4 c5, l = [c0, c1, c2, c3, c4, c5] := by
  match l, h with
  | [c0, c1, c2, c3, c4, c5], _ => exact ⟨c0, c1, c2, c3, c4, c5, rfl⟩
instance : Inhabited PsV := ⟨⟨false, ⟨#[]⟩, 0, false, ⟨#[]⟩, 0, ⟨#[]⟩, ⟨#[]⟩, false, ⟨#[]⟩, ⟨#[]⟩, 0⟩⟩
theorem cells12 : Tryz.prog.cellsOf 50 = 12 := by kernel_rfl
section
variable {H : Type} {enc : TypeId × Value → H} {W : World}
set_option maxRecDepth 100000 in
theorem open_passAt {fuel : Nat} {c0 c1 c2 c3 c4 c5 c6 c7 c8 c9 c10 c11 : Value} {x : DataW H × List MemPlace} (h : DataW.trod enc Tryz.prog W 0 (fun _ => true) true fuel 50 [c0, c1, c2, c3, c4, c5, c6, c7, c8, c9, c10, c11] = some x) :
    ∃ v : PsV, [c0, c1, c2, c3, c4, c5, c6, c7, c8, c9, c10, c11] = v.vals ∧ (Reach 50 x.1 → v.me.size ≤ 140737488355328 ∧ v.he.size ≤ 140737488355328) := by
  obtain ⟨xs, n, rfl, hx, _, hlen, hff⟩ := DataW.trod_struct Tryz.underlying50 h
  obtain ⟨y0, y1, y2, y3, y4, y5, rfl⟩ := list6q (hlen.trans rfl)
  have g0 : DataW.trod enc Tryz.prog W 0 (fun _ => true) true n 23 [c0, c1, c2] = some y0 := hff 0 _ rfl
  have g1 : DataW.trod enc Tryz.prog W 0 (fun _ => true) true n 25 [c3, c4, c5, c6, c7] = some y1 := hff 1 _ rfl
  have g2 : DataW.trod enc Tryz.prog W 0 (fun _ => true) true n 4 [c8] = some y2 := hff 2 _ rfl
  have g3 : DataW.trod enc Tryz.prog W 0 (fun _ => true) true n 9 [c9] = some y3 := hff 3 _ rfl
  have g4 : DataW.trod enc Tryz.prog W 0 (fun _ => true) true n 9 [c10] = some y4 := hff 4 _ rfl
  have g5 : DataW.trod enc Tryz.prog W 0 (fun _ => true) true n 3 [c11] = some y5 := hff 5 _ rfl
  obtain ⟨fs, fh, fp, rfl, rfl, rfl, _, _⟩ := open_orgAt9 g0
  obtain ⟨us', m, rfl, hx2, _, hlen2, hff2⟩ := DataW.trod_struct Tryz.underlying25 g1
  obtain ⟨u0, u1, u2, rfl⟩ := list3q (hlen2.trans rfl)
  have q0 : DataW.trod enc Tryz.prog W 0 (fun _ => true) true m 23 [c3, c4, c5] = some u0 := hff2 0 _ rfl
  have q1 : DataW.trod enc Tryz.prog W 0 (fun _ => true) true m 9 [c6] = some u1 := hff2 1 _ rfl
  have q2 : DataW.trod enc Tryz.prog W 0 (fun _ => true) true m 9 [c7] = some u2 := hff2 2 _ rfl
  obtain ⟨us, uh, up, rfl, rfl, rfl, _, _⟩ := open_orgAt9 q0
  obtain ⟨pa, e7, _, _⟩ := DataW.trod_string Tryz.underlying9 q1
  obtain ⟨qu, e8, _, _⟩ := DataW.trod_string Tryz.underlying9 q2
  obtain ⟨wi, e9, _⟩ := DataW.trod_bool Tryz.underlying4 g2
  obtain ⟨me, e10, rfl, _⟩ := DataW.trod_string Tryz.underlying9 g3
  obtain ⟨he, e11, rfl, _⟩ := DataW.trod_string Tryz.underlying9 g4
  obtain ⟨un, e12, _, _⟩ := DataW.trod_int Tryz.underlying3 g5
  simp only [List.cons.injEq, and_true] at e7 e8 e9 e10 e11 e12
  subst e7 e8 e9 e10 e11 e12
  refine ⟨⟨fs, fh, fp, us, uh, up, pa, qu, wi, me, he, un⟩, rfl, fun hw => ?_⟩
  subst hx
  have w1 := hw me.data.toList.length (by simp [DataW.weights, DataW.weightsEach, Tryz.underlying50])
  have w2 := hw he.data.toList.length (by simp [DataW.weights, DataW.weightsEach, Tryz.underlying50])
  rw [Array.length_toList] at w1 w2
  exact ⟨w1, w2⟩
theorem open_passes {fuel : Nat} {v : Value} {x : DataW H × List MemPlace} (h : DataW.trod enc Tryz.prog W 0 (fun _ => true) true fuel 46 [v] = some x) :
    ∃ (a0 : Option Addr) (len cap b off : Nat) (gs : List PsV), v = .slice a0 len cap ∧ (len ≤ cap ∧ cap ≤ 9223372036854775807) ∧ Pss W a0 len b off gs ∧ (Reach 46 x.1 → ∀ p ∈ gs, p.me.size ≤ 140737488355328 ∧ p.he.size ≤ 140737488355328) := by
  rcases Go.Deep.open_slice Tryz.underlying46 h with ⟨hcs, hx⟩ | ⟨a, len, cap, m, n, D, Pl, hcs, _, hl, hm, hmm, hx, hall⟩
  · simp only [List.cons.injEq, and_true] at hcs
    exact ⟨none, 0, 0, 0, 0, [], hcs, ⟨by omega, by omega⟩, pss_nil W, fun _ p hp => by cases hp⟩
  · simp only [List.cons.injEq, and_true] at hcs
    simp only [if_true] at hmm
    obtain rfl := hmm.symm
    unfold maxLen at hm
    rw [cells12] at hall
    have each : ∀ i, i < cap → ∃ g : PsV, (∀ (j : Nat) (u : Value), g.vals[j]? = some u → W.cell? (a.add (i * 12 + j)) = some u) ∧ (Reach 50 (D i) → g.me.size ≤ 140737488355328 ∧ g.he.size ≤ 140737488355328) := fun i hi => by
      obtain ⟨cs', h1, h2⟩ := hall i hi
      obtain ⟨_, hlen, hcell⟩ := World.cells?_some h1
      match cs', hlen with
      | [c0, c1, c2, c3, c4, c5, c6, c7, c8, c9, c10, c11], _ =>
        obtain ⟨g, e, hg⟩ := open_passAt h2
        refine ⟨g, fun j u hj => ?_, hg⟩
        have hj12 : j < 12 := (List.getElem?_eq_some_iff.1 hj).1
        have e0 := hcell j hj12
        rw [Go.Deep.add_add] at e0
        rw [e0, e, hj]
    obtain ⟨C, hC⟩ := Go.Deep.choose_lt each
    obtain ⟨b, off, spot⟩ := a
    have hget : ∀ (j : Nat) (c : PsV), ((List.range len).map C)[j]? = some c → j < len ∧ c = C j := fun j p hp => by
      rw [List.getElem?_map] at hp
      by_cases hj : j < len
      · rw [List.getElem?_range hj] at hp
        simp only [Option.map_some, Option.some.injEq] at hp
        exact ⟨hj, hp.symm⟩
      · rw [List.getElem?_eq_none (by simp; omega)] at hp
        cases hp
    have hspot : 0 < len → spot = none := fun h0 => by simpa [Addr.add] using World.cell?_spot ((hC 0 (by omega)).1 0 _ rfl)
    refine ⟨some ⟨b, off, spot⟩, len, cap, b, off, (List.range len).map C, hcs, ⟨by omega, by omega⟩, ⟨by simp, fun h0 => ?_, fun j c hc i u hu => ?_⟩, fun hr p hp => ?_⟩
    · obtain rfl := hspot h0
      refine ⟨rfl, ?_⟩
      have hc := (hC 0 (by omega)).1 0 _ rfl
      rcases Nat.lt_or_ge b W.heap.size with h1 | h1
      · exact h1
      · simp [World.cell?, Addr.add, Array.getElem?_eq_none h1] at hc
    · obtain ⟨hj, rfl⟩ := hget j c hc
      obtain rfl := hspot (by omega)
      rw [Nat.add_assoc, ← add_plain]
      exact (hC j (by omega)).1 i u hu
    · obtain ⟨i, hi, rfl⟩ := List.mem_map.1 hp
      have hi' : i < len := List.mem_range.1 hi
      refine (hC i (by omega)).2 fun n hn => ?_
      refine hr n ?_
      rw [hx]
      exact weights_slice Tryz.underlying46 (List.mem_map.2 ⟨i, hi, rfl⟩) n hn
/-- A row of passes that came in. -/
theorem open_passesT {v : Value} {d : DataW H} {p : List MemPlace} {a : Option Addr} {n k : Nat} (h : DataW.Trod enc Tryz.prog W 0 (fun _ => true) true 46 v d p) (hv : v = .slice a n k) :
    ∃ (b off : Nat) (gs : List PsV), (n ≤ k ∧ k ≤ 9223372036854775807) ∧ Pss W a n b off gs ∧ (Reach 46 d → ∀ p ∈ gs, p.me.size ≤ 140737488355328 ∧ p.he.size ≤ 140737488355328) := by
  subst hv
  obtain ⟨fuel, hf⟩ := h
  obtain ⟨a0, len, cap, b, off, gs, e, h1, h2, h3⟩ := open_passes (v := .slice a n k) hf
  injection e with e1 e2 e3
  subst e1 e2 e3
  exact ⟨b, off, gs, h1, h2, h3⟩
end
end Go.Proofs.YtoblpjknnchlmabGreatDoor

/- How many passes come in at most. -/
namespace Go.Proofs.YtoblpjknnchlmabGreatDoor
open Go.ChangeShapes Go.WideShapes Go.ChangeAt Go.RowKit Go.Joins

theorem passes_len {H : Type} {enc : TypeId × Value → H} {W : World} {d : DataW H} {p : List MemPlace} {a : Option Addr} {n k : Nat} (h : DataW.Trod enc Tryz.prog W 0 (fun _ => true) true 46 (.slice a n k) d p) (hr : Reach 46 d) : n ≤ 140737488355328 := by
  obtain ⟨fuel, hf⟩ := h
  rcases Go.Deep.open_slice Tryz.underlying46 hf with ⟨hcs, hx⟩ | ⟨b, len, cap, m, n', D, Pl, hcs, _, hl, hm, hmm, hx, hall⟩
  · cases hcs
    omega
  · cases hcs
    have hd := congrArg Prod.fst hx
    dsimp only at hd
    have hb : Tryz.prog.bytesOf 50 = 144 := by kernel_rfl
    have := hr ((n + (m - n)) * 144) (by
      rw [hd, DataW.weights, Tryz.underlying46]
      simp only [hb, List.length_map, List.length_range, List.mem_cons, true_or])
    omega
end Go.Proofs.YtoblpjknnchlmabGreatDoor

/- What the two tables hold, by what the row lays. -/
namespace Go.Proofs.YtoblpjknnchlmabGreatDoor
open Go.RowKit

theorem pow_data : (Rows.laid_internal_strconv_uint64pow10 : DataW Unit) = Lib.tabData .u64 Lib.pow10Tab := by rfl
theorem pow_laid {W : World} (h : Lib.VarReads Tryz.prog W "internal/strconv.uint64pow10" Rows.laid_internal_strconv_uint64pow10) : Lib.TabIs Tryz.prog W "internal/strconv.uint64pow10" .u64 Lib.pow10Tab := by
  obtain ⟨g', t', cs, fuel, p, hg, hty, hvar, hd⟩ := h
  have hn : Tryz.prog.globalNamed "internal/strconv.uint64pow10" = some 6 := by kernel_rfl
  have ht : (Tryz.prog.globals[6]?).map (·.type) = some 182 := by kernel_rfl
  obtain rfl := Option.some.inj (hn.symm.trans hg)
  obtain rfl := Option.some.inj (ht.symm.trans hty)
  rw [pow_data] at hd
  unfold Lib.TabIs
  rw [hvar, ← Lib.cells_of_tab Tryz.underlying182 Tryz.underlying155 (by kernel_rfl) (by kernel_rfl) hd]
theorem env_laid {W : World} (h1 : Lib.VarReads Tryz.prog W "gatepost/url.schemes" Rows.laid_gatepost_url_schemes) (h2 : Lib.VarReads Tryz.prog W "internal/strconv.uint64pow10" Rows.laid_internal_strconv_uint64pow10) : Env W := ⟨schemes_laid h1, pow_laid h2⟩
end Go.Proofs.YtoblpjknnchlmabGreatDoor
