/- The origin that a text is, by the document's own answer. -/
import Derived.Test.YtpbipanafihabaaDoorOrgP
import Derived.Test.YtpbipanafihabaaDoorOrgQ
import Derived.Test.YtpbipanafihabaaDoorRefPort
import Derived.Test.YtpbipanafihabaaDoorRefRight
import Derived.Test.YtpbipanafihabaaDoorMxL
import Derived.Deep.CutBlock
namespace Go.Proofs.YtpbipanafihabaaDoor
open Go.RowKit

/-- What the document's own answer is held in: the answer's place, and the origin under way behind it. -/
structure QK (w W : World) (v0 v1 v2 : Value) : Prop where
  bel : Below w.heap.size w W
  siz : w.heap.size + 1 < W.heap.size
  r0 : W.cell? ⟨w.heap.size, 0, none⟩ = some (.bool false)
  r1 : W.cell? ⟨w.heap.size, 1, none⟩ = some (.string ⟨#[]⟩)
  r2 : W.cell? ⟨w.heap.size, 2, none⟩ = some (.int .i64 0)
  rf : ∀ j, W.frozen? ⟨w.heap.size, j, none⟩ = false
  c0 : W.cell? ⟨w.heap.size + 1, 0, none⟩ = some v0
  c1 : W.cell? ⟨w.heap.size + 1, 1, none⟩ = some v1
  c2 : W.cell? ⟨w.heap.size + 1, 2, none⟩ = some v2
  cf : ∀ j, W.frozen? ⟨w.heap.size + 1, j, none⟩ = false
theorem QK.step {w W W' : World} {v0 v1 v2 : Value} (h : QK w W v0 v1 v2) (hb : Below W.heap.size W W') : QK w W' v0 v1 v2 := by
  have h1 : w.heap.size < W.heap.size := by have := h.siz; omega
  exact ⟨h.bel.trans (hb.mono h.bel.size), Nat.lt_of_lt_of_le h.siz hb.size, (freshC _ hb 0 h1).trans h.r0, (freshC _ hb 1 h1).trans h.r1, (freshC _ hb 2 h1).trans h.r2, fun j => (freshF _ hb j h1).trans (h.rf j),
    (freshC _ hb 0 h.siz).trans h.c0, (freshC _ hb 1 h.siz).trans h.c1, (freshC _ hb 2 h.siz).trans h.c2, fun j => (freshF _ hb j h.siz).trans (h.cf j)⟩
abbrev zeroO : Obj := .cells #[.bool false, .string ⟨#[]⟩, .int .i64 0] 23
theorem data_one {a b : ByteArray} (h : a.data.toList = b.data.toList) : a = b := by
  apply ByteArray.ext
  apply Array.ext'
  exact h
theorem qk_new (w : World) : QK w ((w.alloc zeroO).alloc zeroO) (.bool false) (.string ⟨#[]⟩) (.int .i64 0) :=
  ⟨((Below.refl _ _).alloc (Nat.le_refl _) _).alloc (by simp) _, by simp, by simp, by simp, by simp, fun j => by simp, by simp, by simp, by simp, fun j => by simp⟩
theorem QK.set0 {w W : World} {v0 v1 v2 : Value} (h : QK w W v0 v1 v2) (u : Value) : QK w (W.setCell ⟨w.heap.size + 1, 0, none⟩ u) u v1 v2 := by
  have nb : ∀ j k, (⟨w.heap.size + 1, j, none⟩ : Addr) ≠ ⟨w.heap.size, k, none⟩ := fun j k e => by injection e with e1; omega
  refine ⟨h.bel.setCell (p := ⟨w.heap.size + 1, 0, none⟩) (by simp) _, by simp [World.setCell]; exact h.siz, (World.cell?_setCell_other _ _ _ _ (nb _ _)).trans h.r0, (World.cell?_setCell_other _ _ _ _ (nb _ _)).trans h.r1, (World.cell?_setCell_other _ _ _ _ (nb _ _)).trans h.r2, fun j => by rw [World.frozen?_setCell]; exact h.rf j, World.cell?_setCell_same _ _ _ h.c0, (World.cell?_setCell_other _ _ _ _ (by simp)).trans h.c1, (World.cell?_setCell_other _ _ _ _ (by simp)).trans h.c2, fun j => by rw [World.frozen?_setCell]; exact h.cf j⟩
theorem QK.set1 {w W : World} {v0 v1 v2 : Value} (h : QK w W v0 v1 v2) (u : Value) : QK w (W.setCell ⟨w.heap.size + 1, 1, none⟩ u) v0 u v2 := by
  have nb : ∀ j k, (⟨w.heap.size + 1, j, none⟩ : Addr) ≠ ⟨w.heap.size, k, none⟩ := fun j k e => by injection e with e1; omega
  refine ⟨h.bel.setCell (p := ⟨w.heap.size + 1, 1, none⟩) (by simp) _, by simp [World.setCell]; exact h.siz, (World.cell?_setCell_other _ _ _ _ (nb _ _)).trans h.r0, (World.cell?_setCell_other _ _ _ _ (nb _ _)).trans h.r1, (World.cell?_setCell_other _ _ _ _ (nb _ _)).trans h.r2, fun j => by rw [World.frozen?_setCell]; exact h.rf j, (World.cell?_setCell_other _ _ _ _ (by simp)).trans h.c0, World.cell?_setCell_same _ _ _ h.c1, (World.cell?_setCell_other _ _ _ _ (by simp)).trans h.c2, fun j => by rw [World.frozen?_setCell]; exact h.cf j⟩
theorem QK.set2 {w W : World} {v0 v1 v2 : Value} (h : QK w W v0 v1 v2) (u : Value) : QK w (W.setCell ⟨w.heap.size + 1, 2, none⟩ u) v0 v1 u := by
  have nb : ∀ j k, (⟨w.heap.size + 1, j, none⟩ : Addr) ≠ ⟨w.heap.size, k, none⟩ := fun j k e => by injection e with e1; omega
  refine ⟨h.bel.setCell (p := ⟨w.heap.size + 1, 2, none⟩) (by simp) _, by simp [World.setCell]; exact h.siz, (World.cell?_setCell_other _ _ _ _ (nb _ _)).trans h.r0, (World.cell?_setCell_other _ _ _ _ (nb _ _)).trans h.r1, (World.cell?_setCell_other _ _ _ _ (nb _ _)).trans h.r2, fun j => by rw [World.frozen?_setCell]; exact h.rf j, (World.cell?_setCell_other _ _ _ _ (by simp)).trans h.c0, (World.cell?_setCell_other _ _ _ _ (by simp)).trans h.c1, World.cell?_setCell_same _ _ _ h.c2, fun j => by rw [World.frozen?_setCell]; exact h.cf j⟩
set_option maxRecDepth 100000 in
set_option maxHeartbeats 2000000 in
theorem refOrigin_any (s : ByteArray) (hs : s.size ≤ 900) (w : World) (hM : MaxL w) :
    Calls Tryd.prog 6 #[.string s] w fun e w' => Below w.heap.size w w' ∧
      ((∃ (sec : Bool) (x : ByteArray) (n : Int), e = .returned (.tuple #[.agg #[.bool sec, .string x, .int .i64 n], .int .i64 0]) ∧ originP s.data.toList = some (sec, x.data.toList, n)) ∨
       (e = .returned (.tuple #[.agg #[.bool false, .string ⟨#[]⟩, .int .i64 0], .int .i64 3]) ∧ originP s.data.toList = none)) := by
  have hsl : s.data.toList.length = s.size := Array.length_toList
  have HM : Hid (MaxL w) := hM
  clear hM
  go_enter Tryd.func6, Tryd.ntmps6
  go_wp2_with fail
  obtain ⟨W0, hW0, HK⟩ : ∃ W0, W0 = (w.alloc zeroO).alloc zeroO ∧ Hid (QK w W0 (.bool false) (.string ⟨#[]⟩) (.int .i64 0)) := ⟨_, rfl, qk_new w⟩
  rw [← hW0]
  clear hW0
  refine (index_any s ⟨#[58, 47, 47]⟩ (by omega) _ (MaxL.below HM.out HK.out.bel)).mono ?_
  rintro e w1 ⟨rfl, rfl⟩
  have e1 : Lib.index s.data.toList (⟨#[58, 47, 47]⟩ : ByteArray).data.toList = Lib.index s.data.toList markC := rfl
  rcases scheme_idx s.data.toList with ⟨hi, hsc⟩ | ⟨i, hi, hil, hsc⟩
  · rw [e1, hi]
    have HO : Hid (originP s.data.toList = none) := originP_none hsc
    have r0 := HK.out.r0
    have r1 := HK.out.r1
    have r2 := HK.out.r2
    have rf := HK.out.rf
    have c0 := HK.out.c0
    have c1 := HK.out.c1
    have c2 := HK.out.c2
    clear e1 hi hsc
    go_wp2
    obtain ⟨y0, y1, y2⟩ := set3 (.bool false) (.string ⟨#[]⟩) (.int .i64 0) r0 r1 r2
    (try simp only [Exit.inBlock, Exit.then])
    refine bodyPost_ret (v := .tuple #[.agg #[.bool false, .string ⟨#[]⟩, .int .i64 0], .int .i64 3]) ?_ rfl ⟨set3_below HK.out.bel (Nat.le_refl _) _ _ _, .inr ⟨rfl, HO⟩⟩
    simp [results, Tryd.f6, go_sem, y0, y1, y2]
  · rw [e1, hi]
    clear e1 hi
    rw [hsl] at hil
    go_upto_block 0 with fail
    obtain ⟨x, HX⟩ : ∃ x : ByteArray, Hid (bs ((s.extract 0 i).data.toList.map low) = x) := ⟨_, rfl⟩
    have HXL : Hid (x.data.toList = (s.data.toList.take i).map low) := by show _ = _; rw [← HX.out, bs_data, upto_data]
    refine (refLower_any (s.extract 0 i) _ (by simp; omega)).mono ?_
    rintro e w2 ⟨rfl, hb2⟩
    rw [HX.out]
    have HK2 : Hid (QK w w2 (.bool false) (.string ⟨#[]⟩) (.int .i64 0)) := HK.out.step hb2
    clear hb2 HK HX
    go_upto_block 0 with fail
    go_cut [4] from 20 (fun v4 wc => v4 = .pointer (some ⟨w.heap.size + 1, 0, none⟩) ∧ ∃ (sec : Bool), Hid (schemeL s.data.toList = some (sec, s.data.toList.drop (i + 3))) ∧ Hid (QK w wc (.bool sec) (.string ⟨#[]⟩) (.int .i64 0)))
    case first =>
      have cf := HK2.out.cf
      have c0 := HK2.out.c0
      rcases hsc with ⟨h1, h2⟩ | ⟨h1, h2⟩ | ⟨h1, h2, h3⟩
      · have q1 : (x.toList == [104, 116, 116, 112]) = true := by rw [ByteArray.toList_eq, HXL.out, h1]; rfl
        have HSC : Hid (schemeL s.data.toList = some (false, s.data.toList.drop (i + 3))) := h2
        clear h1 h2
        go_wp2
        go_meet
        case rel => exact ⟨rfl, false, HSC, HK2⟩
      · have q1 : (x.toList == [104, 116, 116, 112]) = false := by rw [ByteArray.toList_eq, HXL.out, h1]; rfl
        have q2 : (x.toList == [104, 116, 116, 112, 115]) = true := by rw [ByteArray.toList_eq, HXL.out, h1]; rfl
        have HSC : Hid (schemeL s.data.toList = some (true, s.data.toList.drop (i + 3))) := h2
        clear h1 h2
        go_wp2
        go_meet
        case rel => exact ⟨rfl, true, HSC, HK2.out.set0 _⟩
      · have q1 : (x.toList == [104, 116, 116, 112]) = false := by rw [ByteArray.toList_eq, HXL.out]; exact beq_eq_false_iff_ne.2 h1
        have q2 : (x.toList == [104, 116, 116, 112, 115]) = false := by rw [ByteArray.toList_eq, HXL.out]; exact beq_eq_false_iff_ne.2 h2
        have HO : Hid (originP s.data.toList = none) := originP_none h3
        have r0 := HK2.out.r0
        have r1 := HK2.out.r1
        have r2 := HK2.out.r2
        have rf := HK2.out.rf
        clear h1 h2 h3
        go_wp2
        obtain ⟨y0, y1, y2⟩ := set3 (.bool false) (.string ⟨#[]⟩) (.int .i64 0) r0 r1 r2
        (try simp only [Exit.inBlock, Exit.then])
        refine bodyPost_ret (v := .tuple #[.agg #[.bool false, .string ⟨#[]⟩, .int .i64 0], .int .i64 3]) ?_ rfl ⟨set3_below HK2.out.bel (Nat.le_refl _) _ _ _, .inr ⟨rfl, HO⟩⟩
        simp [results, Tryd.f6, go_sem, y0, y1, y2]
    case rest =>
      obtain ⟨rfl, sec, HSC, HK⟩ := hcut
      clear hsc HK2 HXL
      obtain ⟨r, hr⟩ : ∃ r : ByteArray, s.extract (i + 3) s.size = r := ⟨_, rfl⟩
      have HRL : Hid (r.data.toList = s.data.toList.drop (i + 3)) := by show _ = _; rw [← hr, from_data]
      have hrz : r.size ≤ 900 := by rw [← hr]; simp; omega
      obtain ⟨pt, HP⟩ : ∃ pt : Int, Hid (portI sec = pt) := ⟨_, rfl⟩
      have c0 := HK.out.c0
      go_upto_if 37 with fail
      refine (refPort sec _).mono ?_
      rintro e w3 ⟨rfl, hb3⟩
      rw [HP.out]
      have HK3 : Hid (QK w w3 (.bool sec) (.string ⟨#[]⟩) (.int .i64 0)) := HK.out.step hb3
      have c2 := HK3.out.c2
      have cf := HK3.out.cf
      clear hb3 HK c0
      go_upto_if 37 with fail
      obtain ⟨W4, hW4, HK4⟩ : ∃ W4, W4 = w3.setCell ⟨w.heap.size + 1, 2, none⟩ (.int .i64 pt) ∧ Hid (QK w W4 (.bool sec) (.string ⟨#[]⟩) (.int .i64 pt)) := ⟨_, rfl, HK3.out.set2 _⟩
      rw [← hW4]
      clear hW4 HK3 c2 cf
      clear hr
      refine (ix_of r 58 _ rfl _).mono ?_
      rintro e w5 ⟨rfl, rfl⟩
      have hrl : r.data.toList.length = r.size := Array.length_toList
      have hcut0 := ixOf_first r.data.toList 58
      obtain ⟨X, hX⟩ : ∃ X : Int, ixOf r.data.toList 58 = X := ⟨_, rfl⟩
      rw [hX]
      rw [hX] at hcut0
      go_upto_if 37 with fail
      go_cut [6] from 38 (fun v6 wc => ∃ (h : ByteArray) (P : Int), v6 = .string h ∧ h.size ≤ 900 ∧ Hid (∀ (y : List UInt8) (R : Bool), y = h.data.toList.map low → rightL y P = R → originL sec r.data.toList = if R then some (y, P) else none) ∧ Hid (QK w wc (.bool sec) (.string ⟨#[]⟩) (.int .i64 P)))
      case first =>
        rcases hcut0 with ⟨rfl, hno⟩ | ⟨k, hk, rfl, hno, heq⟩
        · go_wp2
          go_meet
          case rel => exact ⟨r, pt, rfl, hrz, fun y R hy hR => originL_of (cutL_none 58 _ hno) hy (by rw [if_neg (by decide), HP.out]) hR, HK4⟩
        · rw [hrl] at hk
          obtain ⟨d, HD⟩ : ∃ d : ByteArray, Hid (r.extract (k + 1) r.size = d) := ⟨_, rfl⟩
          have HDL : Hid (cutL 58 r.data.toList = ((r.extract 0 k).data.toList, d.data.toList, true)) := by
            show _ = _
            rw [← HD.out, upto_data, from_data]
            conv => lhs; rw [heq]
            exact cutL_some 58 _ _ hno
          have hdl : d.data.toList.length = d.size := Array.length_toList
          have hdz : d.size ≤ 900 := by rw [← HD.out]; simp; omega
          have HBAD : Hid (numL d.data.toList = 0 → originP s.data.toList = none) := fun hz => by
            refine originP_no HSC.out ?_
            rw [← HRL.out, originL_of HDL.out rfl (P := 0) (R := false) (by rw [if_pos rfl, hz]; rfl) (by simp [rightL])]
            rfl
          clear hX hno heq
          have r0 := HK4.out.r0
          have r1 := HK4.out.r1
          have r2 := HK4.out.r2
          have rf := HK4.out.rf
          have c2 := HK4.out.c2
          have cf := HK4.out.cf
          have hdx := HD.out
          go_wp2_with fail
          clear hdx
          refine (within_any _ _ _ _).mono ?_
          rintro e w' ⟨rfl, rfl⟩
          by_cases h5 : 1 ≤ (d.size : Int) ∧ (d.size : Int) ≤ 5
          · have i5 : decide (1 ≤ (d.size : Int) ∧ (d.size : Int) ≤ 5) = true := decide_eq_true h5
            rw [i5]
            clear r0 r1 r2 rf
            have HK5 := HK4.out.set2 (.int .i64 0)
            clear HK4 i5
            go_wp2_with fail
            go_loopw [53] (fun i wr => ∃ (j n : Nat), j ≤ d.size ∧ i = .int .i64 (j : Int) ∧ n < 100000 ∧ (j < 5 → n < 10000) ∧ Hid (n = valL (d.data.toList.take j) ∧ (d.data.toList.take j).all digB = true) ∧ Hid (QK w wr (.bool sec) (.string ⟨#[]⟩) (.int .i64 (n : Int)))) (fun i _ => d.size - (intOf i).toNat)
            case atStart => exact ⟨0, 0, Nat.zero_le _, rfl, by omega, fun _ => by omega, ⟨rfl, rfl⟩, HK5⟩
            case round =>
              obtain ⟨j, n, hj, rfl, hn, hn5, HV, HKr⟩ := hrel
              clear HK5 c2 cf
              by_cases hlt : j < d.size
              · have hn4 := hn5 (by omega)
                obtain ⟨c, hcd⟩ : ∃ c : UInt8, d[j] = c := ⟨_, rfl⟩
                have hcl : (c.toNat : Int) < 256 := by have := c.toNat_lt; omega
                have HS : Hid (d.data.toList.take (j + 1) = d.data.toList.take j ++ [c]) := by rw [← hcd]; exact take_snoc d j hlt
                by_cases h2 : 48 ≤ (c.toNat : Int) ∧ (c.toNat : Int) ≤ 57
                · have i2 : decide (48 ≤ (c.toNat : Int) ∧ (c.toNat : Int) ≤ 57) = true := decide_eq_true h2
                  have hu : IntKind.u8.wrap ((c.toNat : Int) - 48) = (c.toNat : Int) - 48 := by rw [IntKind.wrap_u8]; omega
                  have HN : Hid (10 * n + (c.toNat - 48) = valL (d.data.toList.take (j + 1)) ∧ (d.data.toList.take (j + 1)).all digB = true) := by
                    rw [HS.out]
                    refine ⟨by rw [valL_snoc, ← HV.out.1], ?_⟩
                    rw [List.all_append, HV.out.2]
                    simp [digB]
                    omega
                  have HB : Hid (j + 1 < 5 → 10 * n + (c.toNat - 48) < 10000) := by
                    intro h
                    have h1 := valL_lt (j + 1) _ (by simp; omega) HN.out.2
                    rw [← HN.out.1] at h1
                    have h3 : 10 ^ (j + 1) ≤ 10 ^ 4 := Nat.pow_le_pow_right (by decide) (by omega)
                    have h4 : (10 : Nat) ^ 4 = 10000 := by decide
                    omega
                  have hc1 := h2.1
                  have hc2 := h2.2
                  have c2 := HKr.out.c2
                  have cf := HKr.out.cf
                  have h1 : (j : Int) < (d.size : Int) := by omega
                  have h0 : (0 : Int) ≤ (j : Int) := by omega
                  have HE : Hid (Value.int .i64 ((n : Int) * 10 + ((c.toNat : Int) - 48)) = .int .i64 ((10 * n + (c.toNat - 48) : Nat) : Int)) := by show _ = _; congr 1; omega
                  clear h2 HV hn5
                  go_wp2_with (go_at_call 18; refine (within_any _ _ _ _).mono ?_; rintro e w' ⟨rfl, rfl⟩; rw [i2])
                  go_region
                  go_wp2
                  go_roundw
                  case rel => exact ⟨j + 1, 10 * n + (c.toNat - 48), by omega, by go_num, by omega, HB.out, HN, by rw [HE.out]; exact (HKr.out.set2 _).step (Below.refl _ _).drew⟩
                  case measure => simp [intOf]; omega
                · have i2 : decide (48 ≤ (c.toNat : Int) ∧ (c.toNat : Int) ≤ 57) = false := decide_eq_false h2
                  have HO : Hid (originP s.data.toList = none) := HBAD.out (by
                    unfold numL
                    rw [if_neg]
                    rintro ⟨_, h⟩
                    rw [List.all_eq_true] at h
                    have h1 := h c (by rw [← hcd]; exact List.getElem_mem (l := d.data.toList) (by omega))
                    have := of_decide_eq_true h1
                    omega)
                  have r0 := HKr.out.r0
                  have r1 := HKr.out.r1
                  have r2 := HKr.out.r2
                  have rf := HKr.out.rf
                  clear h2 HV hn5
                  go_wp2_with (go_at_call 18; refine (within_any _ _ _ _).mono ?_; rintro e w' ⟨rfl, rfl⟩; rw [i2])
                  obtain ⟨y0, y1, y2⟩ := set3 (.bool false) (.string ⟨#[]⟩) (.int .i64 0) r0 r1 r2
                  (try simp only [Exit.inBlock, Exit.then])
                  refine bodyPost_ret (v := .tuple #[.agg #[.bool false, .string ⟨#[]⟩, .int .i64 0], .int .i64 3]) ?_ rfl ⟨set3_below HKr.out.bel (Nat.le_refl _) _ _ _, .inr ⟨rfl, HO⟩⟩
                  simp [results, Tryd.f6, go_sem, y0, y1, y2]
              · have hke : j = d.size := by omega
                go_wp2
                go_meet
                case rel =>
                  refine ⟨r.extract 0 k, (n : Int), rfl, by simp; omega, fun y R hy hR => originL_of HDL.out hy ?_ hR, HKr⟩
                  have h1 := HV.out
                  rw [hke, List.take_of_length_le (by omega)] at h1
                  rw [if_pos rfl]
                  unfold numL
                  rw [if_pos ⟨by omega, h1.2⟩, h1.1]
          · have i5 : decide (1 ≤ (d.size : Int) ∧ (d.size : Int) ≤ 5) = false := decide_eq_false h5
            rw [i5]
            have HO : Hid (originP s.data.toList = none) := HBAD.out (by
              unfold numL
              by_cases hd0 : d.size = 0
              · rw [List.eq_nil_of_length_eq_zero (hdl.trans hd0)]; rfl
              · rw [if_neg (by omega)])
            go_wp2
            obtain ⟨y0, y1, y2⟩ := set3 (.bool false) (.string ⟨#[]⟩) (.int .i64 0) r0 r1 r2
            (try simp only [Exit.inBlock, Exit.then])
            refine bodyPost_ret (v := .tuple #[.agg #[.bool false, .string ⟨#[]⟩, .int .i64 0], .int .i64 3]) ?_ rfl ⟨set3_below HK4.out.bel (Nat.le_refl _) _ _ _, .inr ⟨rfl, HO⟩⟩
            simp [results, Tryd.f6, go_sem, y0, y1, y2]
      case rest =>
        obtain ⟨h, P, rfl, hhz, HOL, HK⟩ := hcut
        have hhl : h.data.toList.length = h.size := Array.length_toList
        obtain ⟨y, HY⟩ : ∃ y : ByteArray, Hid (bs (h.data.toList.map low) = y) := ⟨_, rfl⟩
        have HYL : Hid (y.data.toList = h.data.toList.map low) := by show _ = _; rw [← HY.out, bs_data]
        have hyz : y.size ≤ 900 := by
          have h1 := congrArg List.length HYL.out
          rw [List.length_map, data_len, data_len] at h1
          omega
        clear hcut0 hX
        go_wp2_with fail
        refine (refLower_any h _ (by omega)).mono ?_
        rintro e w6 ⟨rfl, hb6⟩
        rw [HY.out]
        have HK6 : Hid (QK w w6 (.bool sec) (.string ⟨#[]⟩) (.int .i64 P)) := HK.out.step hb6
        have c1 := HK6.out.c1
        have cf := HK6.out.cf
        have HK7 : Hid (QK w (w6.setCell ⟨w.heap.size + 1, 1, none⟩ (.string y)) (.bool sec) (.string y) (.int .i64 P)) := HK6.out.set1 _
        have g0 := HK7.out.c0
        have g1 := HK7.out.c1
        have g2 := HK7.out.c2
        obtain ⟨R, HR⟩ : ∃ R : Bool, Hid (rightL y.data.toList P = R) := ⟨_, rfl⟩
        go_wp2_with fail
        refine (refRight sec y P (by omega) _).mono ?_
        rintro e w8 ⟨rfl, hb8⟩
        rw [HR.out]
        have HK8 : Hid (QK w w8 (.bool sec) (.string y) (.int .i64 P)) := HK7.out.step hb8
        have r0 := HK8.out.r0
        have r1 := HK8.out.r1
        have r2 := HK8.out.r2
        have rf := HK8.out.rf
        have k0 := HK8.out.c0
        have k1 := HK8.out.c1
        have k2 := HK8.out.c2
        clear hb6 hb8 HK HK6 HK7 g0 g1 g2 c1 cf
        have HO := HOL.out _ _ HYL.out HR.out
        rw [HRL.out] at HO
        have HO2 : Hid (originL sec (s.data.toList.drop (i + 3)) = if R then some (y.data.toList, P) else none) := HO
        clear HO
        cases R
        · have HO : Hid (originP s.data.toList = none) := originP_no HSC.out (HO2.out.trans rfl)
          go_wp2
          obtain ⟨y0, y1, y2⟩ := set3 (.bool false) (.string ⟨#[]⟩) (.int .i64 0) r0 r1 r2
          (try simp only [Exit.inBlock, Exit.then])
          refine bodyPost_ret (v := .tuple #[.agg #[.bool false, .string ⟨#[]⟩, .int .i64 0], .int .i64 3]) ?_ rfl ⟨set3_below HK8.out.bel (Nat.le_refl _) _ _ _, .inr ⟨rfl, HO⟩⟩
          simp [results, Tryd.f6, go_sem, y0, y1, y2]
        · have HO : Hid (originP s.data.toList = some (sec, y.data.toList, P)) := originP_yes HSC.out (HO2.out.trans rfl)
          go_wp2
          obtain ⟨y0, y1, y2⟩ := set3 (.bool sec) (.string y) (.int .i64 P) r0 r1 r2
          (try simp only [Exit.inBlock, Exit.then])
          refine bodyPost_ret (v := .tuple #[.agg #[.bool sec, .string y, .int .i64 P], .int .i64 0]) ?_ rfl ⟨set3_below HK8.out.bel (Nat.le_refl _) _ _ _, .inl ⟨sec, y, P, rfl, HO⟩⟩
          simp [results, Tryd.f6, go_sem, y0, y1, y2]
end Go.Proofs.YtpbipanafihabaaDoor
