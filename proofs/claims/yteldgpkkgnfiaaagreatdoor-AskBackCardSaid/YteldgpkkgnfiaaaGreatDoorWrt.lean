/- A challenge written, by the program. -/
import Derived.Test.YteldgpkkgnfiaaaGreatDoorAkT
import Derived.Test.YteldgpkkgnfiaaaGreatDoorBdk
import Derived.Test.YteldgpkkgnfiaaaGreatDoorValO
import Derived.Deep.Cut
import Derived.Deep.DeepCutAuto
namespace Go.Proofs.YteldgpkkgnfiaaaGreatDoor
open Go.RowKit

def WrtAns (c : ChV) (B b : Nat) (l : List UInt8) (e : Ending) (w' : World) : Prop :=
  (∃ t, chalT c.x = some t ∧ e = .returned (.bool true) ∧ Built w' B b (l ++ t)) ∨ (chalT c.x = none ∧ e = .returned (.bool false))
theorem parT_none {p : Par} (h : valueO p.2.data.toList = none) : parT p = none := by unfold parT; rw [h]; rfl
theorem parT_some {p : Par} {v : List UInt8} (h : valueO p.2.data.toList = some v) : parT p = some (32 :: (p.1.data.toList ++ 61 :: v)) := by unfold parT; rw [h]; rfl
theorem chalT_none {x : Chal} (h : parsT true x.params = none) : chalT x = none := by unfold chalT; rw [h]; rfl
theorem chalT_some {x : Chal} {a : List UInt8} (h : parsT true x.params = some a) : chalT x = some (x.scheme.data.toList ++ tokT x.token ++ a) := by unfold chalT; rw [h]; rfl
theorem drewN_belowB {B : Nat} {a w : World} (h : Below B a w) (n : Nat) : Below B a (w.drewN n) := h.trans ⟨rfl, rfl, rfl, Nat.le_refl _, fun _ _ => rfl⟩
theorem empty_yes {s : ByteArray} (h : s.size = 0) : s.toList.isEmpty = true := by
  rw [ByteArray.toList_eq]
  have : s.data.toList.length = 0 := by rw [Array.length_toList]; exact h
  rw [List.eq_nil_of_length_eq_zero this]
  rfl
theorem empty_no {s : ByteArray} (h : s.size ≠ 0) : s.toList.isEmpty = false := by
  rw [ByteArray.toList_eq]
  cases e : s.data.toList with
  | nil =>
    have : s.data.toList.length = s.size := Array.length_toList
    rw [e] at this
    exact absurd this.symm h
  | cons x r => rfl
theorem parW_take (ps : List Par) (k : Nat) : parW (ps.take k) ≤ parW ps := by
  conv => rhs; rw [← List.take_append_drop k ps, parW_app]
  omega
set_option maxRecDepth 100000 in
set_option maxHeartbeats 4000000 in
theorem write_any (c : ChV) (hf : c.x.params.length ≤ 1000 ∧ ∀ p ∈ c.x.params, p.1.size ≤ 3000 ∧ p.2.size ≤ 3000) (hst : c.x.scheme.size ≤ 3000 ∧ c.x.token.size ≤ 3000) (B b : Nat) (l : List UInt8) (hl : l.length + (2 * chW c.x + 5 * c.x.params.length + 1) ≤ 9000000)
    (w : World) (hw : Built w B b l) (hB : B ≤ w.heap.size) (hx : ChOk w c) (hxB : 0 < c.len → c.b < B) :
    Calls Tryz.prog 57 #[.pointer (some ⟨b, 0, none⟩), .agg #[.string c.x.scheme, .string c.x.token, .slice c.a c.len c.cap]] w fun e w' => WrtAns c B b l e w' ∧ Below B w w' := by
  obtain ⟨hBb, hbw⟩ := hw.lt
  have HF : Hid (∀ p ∈ c.x.params, p.1.size ≤ 3000 ∧ p.2.size ≤ 3000) := hf.2
  have hcl : c.len ≤ 1000 := hf.1
  have HL : Hid (l.length + (2 * chW c.x + 5 * c.x.params.length + 1) ≤ 9000000) := hl
  have HXB : Hid (0 < c.len → c.b < B) := hxB
  have hb1 : Below w.heap.size w (w.alloc (.cells #[.string c.x.scheme, .string c.x.token, .slice c.a c.len c.cap] 35)) := (Below.refl _ _).alloc (Nat.le_refl _) _
  have HX1 : Hid (ChOk (w.alloc (.cells #[.string c.x.scheme, .string c.x.token, .slice c.a c.len c.cap] 35)) c) := hx.below hb1
  have HW1 : Hid (Built (w.alloc (.cells #[.string c.x.scheme, .string c.x.token, .slice c.a c.len c.cap] 35)) B b l) := hw.below hb1
  have hbox1 : (w.alloc (.cells #[.string c.x.scheme, .string c.x.token, .slice c.a c.len c.cap] 35)).heap[w.heap.size]? = some (.cells #[.string c.x.scheme, .string c.x.token, .slice c.a c.len c.cap] 35 (0, 0)) := heap_alloc_new w _
  have HB1 : Hid (Below B w (w.alloc (.cells #[.string c.x.scheme, .string c.x.token, .slice c.a c.len c.cap] 35))) := hb1.mono hB
  have HBOX1 : Hid ((w.alloc (.cells #[.string c.x.scheme, .string c.x.token, .slice c.a c.len c.cap] 35)).heap[w.heap.size]? = some (.cells #[.string c.x.scheme, .string c.x.token, .slice c.a c.len c.cap] 35 (0, 0))) := hbox1
  have hne : w.heap.size ≠ b := by omega
  obtain ⟨hs1, hs2⟩ := hst
  have hes : c.x.scheme.data.toList.length = c.x.scheme.size := Array.length_toList
  have HES : Hid (c.x.scheme.data.toList.length = c.x.scheme.size) := hes
  have HET : Hid (c.x.token.data.toList.length = c.x.token.size) := Array.length_toList
  clear hf hl hx hw hxB hb1 hes hbox1
  go_enter Tryz.func57, Tryz.ntmps57
  go_wp2_with fail
  refine (bdk_write B b l _ _ HW1.out (by have := HL.out; unfold chW at this; omega) (by simp; omega)).mono ?_
  rintro e w2 ⟨rfl, hw2, hb2, ho2⟩
  have hbox2 := kept_cells ho2 HBOX1.out (by decide) hne
  have HX2 : Hid (ChOk w2 c) := HX1.out.belowB hb2 HXB.out
  have HW2 : Hid (Built w2 B b (l ++ c.x.scheme.data.toList)) := hw2
  have HB2 : Hid (Below B w w2) := HB1.out.trans hb2
  have hz2 : B ≤ w2.heap.size := Nat.le_trans hB (Nat.le_trans HB1.out.size hb2.size)
  have HBOX2 : Hid (w2.heap[w.heap.size]? = some (.cells #[.string c.x.scheme, .string c.x.token, .slice c.a c.len c.cap] 35 (0, 0))) := hbox2
  have hc1 := cells_of hbox2 1 _ rfl
  clear hw2 ho2 HW1 HX1 HBOX1 HB1 hbox2
  go_upto_if 15 with fail
  go_cut [] (fun wc => Hid (Built wc B b (l ++ c.x.scheme.data.toList ++ tokT c.x.token) ∧ ChOk wc c ∧ Below B w wc ∧ wc.heap[w.heap.size]? = some (.cells #[.string c.x.scheme, .string c.x.token, .slice c.a c.len c.cap] 35 (0, 0))) ∧ B ≤ wc.heap.size)
  case first =>
    by_cases ht : c.x.token.size = 0
    · have HT : Hid (tokT c.x.token = []) := by show _ = _; unfold tokT; rw [if_pos ht]
      have he : (!c.x.token.toList.isEmpty) = false := by rw [empty_yes ht]; rfl
      rw [he]
      go_wp2
      go_meet
      exact ⟨⟨by rw [HT.out, List.append_nil]; exact HW2.out, HX2.out, HB2.out, HBOX2.out⟩, hz2⟩
    · have HT : Hid (tokT c.x.token = (⟨#[32]⟩ ++ c.x.token : ByteArray).data.toList) := by show _ = _; unfold tokT; rw [if_neg ht]; simp
      have he : (!c.x.token.toList.isEmpty) = true := by rw [empty_no ht]; rfl
      rw [he]
      have hzt : (⟨#[32]⟩ ++ c.x.token : ByteArray).size = 1 + c.x.token.size := by rw [ByteArray.size_append]; rfl
      have HZT : Hid ((⟨#[32]⟩ ++ c.x.token : ByteArray).size = 1 + c.x.token.size) := hzt
      clear hzt
      go_wp2_with fail
      refine (bdk_write B b _ _ _ HW2.out (by rw [HZT.out, List.length_append, HES.out]; have := HL.out; unfold chW at this; omega) hz2).mono ?_
      rintro e w3 ⟨rfl, hw3, hb3, ho3⟩
      have HC3 : Hid (Built w3 B b (l ++ c.x.scheme.data.toList ++ tokT c.x.token) ∧ ChOk w3 c ∧ Below B w w3 ∧ w3.heap[w.heap.size]? = some (.cells #[.string c.x.scheme, .string c.x.token, .slice c.a c.len c.cap] 35 (0, 0))) :=
        ⟨by rw [HT.out]; exact hw3, HX2.out.belowB hb3 HXB.out, HB2.out.trans hb3, kept_cells ho3 HBOX2.out (by decide) hne⟩
      have hz3 : B ≤ w3.heap.size := Nat.le_trans hz2 hb3.size
      clear hw3 hb3 ho3
      go_wp2
      go_meet
      exact ⟨HC3, hz3⟩
  case rest =>
    obtain ⟨HC, hz3⟩ := hcut
    have hc2 := cells_of HC.out.2.2.2 2 _ rfl
    have HLT : Hid ((l ++ c.x.scheme.data.toList ++ tokT c.x.token).length + (2 * parW c.x.params + 5 * c.x.params.length) ≤ 9000000) := by
      show _ ≤ _
      have h1 := HL.out
      have h2 : (tokT c.x.token).length ≤ c.x.token.size + 1 := by unfold tokT; split <;> simp
      have := HES.out
      unfold chW at h1
      rw [List.length_append, List.length_append]
      omega
    clear HW2 HX2 HB2 HBOX2 HL
    obtain ⟨m, HM⟩ : ∃ m, Hid (l ++ c.x.scheme.data.toList ++ tokT c.x.token = m) := ⟨_, rfl⟩
    rw [HM.out] at HC HLT
    obtain ⟨a, hA⟩ : ∃ a, c.a = a := ⟨_, rfl⟩
    rw [hA] at hc2 ⊢
    have HA' : Hid (c.a = a) := hA
    clear hA
    go_wp2
    go_loopw [24] (fun i wr => ∃ (k : Nat) (o : List UInt8), k ≤ c.len ∧ i = .int .i64 k ∧ Hid (ParsAt c.x.params o k ∧ o.length ≤ 2 * parW (c.x.params.take k) + 5 * k ∧ Built wr B b (m ++ o) ∧ ChOk wr c ∧ Below B w wr) ∧ B ≤ wr.heap.size) (fun i _ => c.len - (intOf i).toNat)
    case atStart => exact ⟨0, [], Nat.zero_le _, rfl, ⟨parsAt_start _, by simp, by rw [List.append_nil]; exact HC.out.1, HC.out.2.1, HC.out.2.2.1⟩, hz3⟩
    case round =>
      obtain ⟨k, o, hk, rfl, HI, hzr⟩ := hrel
      by_cases hlt : k < c.len
      · obtain ⟨p, hpk⟩ : ∃ p, c.x.params[k]? = some p := ⟨c.x.params[k]'hlt, List.getElem?_eq_getElem hlt⟩
        have HP : Hid (c.x.params[k]? = some p) := hpk
        obtain ⟨hz4, hz5⟩ := HF.out p (List.mem_of_getElem? hpk)
        obtain ⟨ha, hbl⟩ := HI.out.2.2.2.1.lies (by omega)
        have hp1 := HI.out.2.2.2.1.one k p hpk
        have hp2 := HI.out.2.2.2.1.two k p hpk
        obtain rfl : a = some ⟨c.b, c.off, none⟩ := HA'.out.symm.trans ha
        clear hpk ha
        rcases hv : valueO p.2.data.toList with _ | v
        · have HA : Hid (chalT c.x = none) := chalT_none (parsAt_bad HI.out.1 HP.out (parT_none hv))
          go_wp2_with fail
          refine (value_none p.2 hz5 hv _).mono ?_
          rintro e w4 ⟨rfl, hw4⟩
          obtain rfl := hw4.symm
          go_wp2
          go_ret
          exact ⟨.inr ⟨HA, rfl⟩, HI.out.2.2.2.2.alloc hzr _⟩
        · have HV : Hid (parT p = some (32 :: (p.1.data.toList ++ 61 :: v))) := parT_some hv
          have HN : Hid (ParsAt c.x.params (o ++ (sepP (k == 0) ++ 32 :: (p.1.data.toList ++ 61 :: v))) (k + 1)) := parsAt_next HI.out.1 HP.out HV.out
          have HNL : Hid ((o ++ (sepP (k == 0) ++ 32 :: (p.1.data.toList ++ 61 :: v))).length ≤ 2 * parW (c.x.params.take (k + 1)) + 5 * (k + 1) ∧ (m ++ (o ++ (sepP (k == 0) ++ 32 :: (p.1.data.toList ++ 61 :: v)))).length ≤ 9000000) := by
            have h1 := HI.out.2.1
            have h2 := parW_snoc _ _ _ HP.out
            have h3 := parT_len _ _ HV.out
            have h4 : (sepP (k == 0)).length ≤ 1 := by cases (k == 0) <;> simp [sepP]
            have h5 := HLT.out
            have h6 := parW_take c.x.params (k + 1)
            have h7 : c.len = c.x.params.length := rfl
            have h8 : (o ++ (sepP (k == 0) ++ 32 :: (p.1.data.toList ++ 61 :: v))).length ≤ 2 * parW (c.x.params.take (k + 1)) + 5 * (k + 1) := by
              rw [List.length_append, List.length_append]
              omega
            refine ⟨h8, ?_⟩
            rw [List.length_append]
            omega
          obtain ⟨tv, HTV⟩ : ∃ tv, Hid (bs v = tv) := ⟨_, rfl⟩
          have hval : ∀ w, Calls Tryz.prog 101 #[.string p.2] w fun e w' => e = .returned (.tuple #[.string tv, .nilIface]) ∧ Below w.heap.size w w' := fun w => by rw [← HTV.out]; exact value_some p.2 hz5 v hv w
          have htz : tv.size ≤ 9000000 := by
            have h1 := HNL.out.2
            have h2 : tv.size = v.length := by rw [← HTV.out, bs_size]
            simp only [List.length_append, List.length_cons] at h1
            omega
          have HTX : Hid ((⟨#[32]⟩ ++ p.1 ++ ⟨#[61]⟩ ++ tv : ByteArray).data.toList = 32 :: (p.1.data.toList ++ 61 :: v)) := by
            show _ = _
            rw [← HTV.out]
            simp [bs]
          clear hv
          have hb4 : Below wr.heap.size wr (wr.alloc (.cells #[.string p.1, .string p.2] 71)) := (Below.refl _ _).alloc (Nat.le_refl _) _
          have hx4 : (wr.alloc (.cells #[.string p.1, .string p.2] 71)).heap[wr.heap.size]? = some (.cells #[.string p.1, .string p.2] 71 (0, 0)) := heap_alloc_new wr _
          have hbr : b ≠ wr.heap.size := by have := HI.out.2.2.1.lt.2; omega
          go_wp2_with fail
          refine (hval _).mono ?_
          rintro e w5 ⟨rfl, hb5⟩
          have HX5 : Hid (w5.heap[wr.heap.size]? = some (.cells #[.string p.1, .string p.2] 71 (0, 0))) := below_block hb5 hx4
          have HI5 : Hid (Built w5 B b (m ++ o) ∧ ChOk w5 c ∧ Below B w w5) := ⟨(HI.out.2.2.1.below hb4).below hb5, (HI.out.2.2.2.1.below hb4).below hb5, (HI.out.2.2.2.2.alloc hzr _).trans (hb5.mono (by simp; omega))⟩
          have hz6 : B ≤ w5.heap.size := Nat.le_trans hzr (Nat.le_trans hb4.size hb5.size)
          clear hb4 hx4 hb5
          by_cases h0 : k = 0
          · have HSP : Hid (sepP (k == 0) = []) := by show _ = _; rw [h0]; rfl
            have hk0 : ¬ (0 : Int) < (k : Int) := by omega
            have hcn := cells_of HX5.out 0 _ rfl
            rw [HSP.out, List.nil_append] at HN HNL
            clear h0
            go_wp2_with fail
            refine (bdk_write B b _ _ _ HI5.out.1 (by
              have h1 := HNL.out.2
              have h2 := congrArg List.length HTX.out
              rw [Array.length_toList] at h2
              have h3 : (⟨#[32]⟩ ++ p.1 ++ ⟨#[61]⟩ ++ tv : ByteArray).data.size = (⟨#[32]⟩ ++ p.1 ++ ⟨#[61]⟩ ++ tv : ByteArray).size := rfl
              rw [List.length_append, List.length_append] at h1
              rw [List.length_append]
              omega) hz6).mono ?_
            rintro e w7 ⟨rfl, hw7, hb7, ho7⟩
            have HI7 : Hid (Built w7 B b (m ++ (o ++ 32 :: (p.1.data.toList ++ 61 :: v))) ∧ ChOk w7 c ∧ Below B w w7) := ⟨by rw [← List.append_assoc, ← HTX.out]; exact hw7, HI5.out.2.1.belowB hb7 HXB.out, HI5.out.2.2.trans hb7⟩
            have hz7 : B ≤ w7.heap.size := Nat.le_trans hz6 hb7.size
            clear hw7 hb7 ho7
            go_wp2
            go_roundw
            case rel => exact ⟨k + 1, _, by omega, by go_num, ⟨HN.out, HNL.out.1, HI7.out.1, HI7.out.2.1, HI7.out.2.2⟩, hz7⟩
            case measure => simp [intOf]; omega
          · have HSP : Hid (sepP (k == 0) = [44]) := by show _ = _; rw [beq_eq_false_iff_ne.2 h0]; rfl
            have hk0 : (0 : Int) < (k : Int) := by omega
            rw [HSP.out] at HN HNL
            go_wp2_with fail
            refine (bdk_byte B b _ 44 _ HI5.out.1 (by
              have h1 := HNL.out.2
              simp only [List.length_append, List.length_cons] at h1
              rw [List.length_append]
              omega) hz6).mono ?_
            rintro e w6 ⟨rfl, hw6, hb6, ho6⟩
            have HX6 : Hid (w6.heap[wr.heap.size]? = some (.cells #[.string p.1, .string p.2] 71 (0, 0))) := kept_cells ho6 HX5.out (by decide) hbr.symm
            have HI6 : Hid (Built w6 B b (m ++ o ++ [44]) ∧ ChOk w6 c ∧ Below B w w6) := ⟨hw6, HI5.out.2.1.belowB hb6 HXB.out, HI5.out.2.2.trans hb6⟩
            have hz66 : B ≤ w6.heap.size := Nat.le_trans hz6 hb6.size
            clear hw6 hb6 ho6
            have hcn := cells_of HX6.out 0 _ rfl
            go_wp2_with fail
            refine (bdk_write B b _ _ _ HI6.out.1 (by
              have h1 := HNL.out.2
              have h2 := congrArg List.length HTX.out
              rw [Array.length_toList] at h2
              have h3 : (⟨#[32]⟩ ++ p.1 ++ ⟨#[61]⟩ ++ tv : ByteArray).data.size = (⟨#[32]⟩ ++ p.1 ++ ⟨#[61]⟩ ++ tv : ByteArray).size := rfl
              rw [List.length_append, List.length_append, List.length_append] at h1
              rw [List.length_append, List.length_append]
              omega) hz66).mono ?_
            rintro e w7 ⟨rfl, hw7, hb7, ho7⟩
            have HI7 : Hid (Built w7 B b (m ++ (o ++ ([44] ++ 32 :: (p.1.data.toList ++ 61 :: v)))) ∧ ChOk w7 c ∧ Below B w w7) := ⟨by rw [← List.append_assoc, ← List.append_assoc, ← HTX.out]; exact hw7, HI6.out.2.1.belowB hb7 HXB.out, HI6.out.2.2.trans hb7⟩
            have hz7 : B ≤ w7.heap.size := Nat.le_trans hz66 hb7.size
            clear hw7 hb7 ho7
            go_wp2
            go_roundw
            case rel => exact ⟨k + 1, _, by omega, by go_num, ⟨HN.out, HNL.out.1, HI7.out.1, HI7.out.2.1, HI7.out.2.2⟩, hz7⟩
            case measure => simp [intOf]; omega
      · have HA : Hid (chalT c.x = some (c.x.scheme.data.toList ++ tokT c.x.token ++ o)) := chalT_some (parsAt_end HI.out.1 (by unfold ChV.len at hlt; omega))
        go_wp2
        go_ret
        exact ⟨.inl ⟨_, HA, rfl, by rw [← List.append_assoc, ← List.append_assoc, HM.out]; exact HI.out.2.2.1⟩, HI.out.2.2.2.2⟩
end Go.Proofs.YteldgpkkgnfiaaaGreatDoor
