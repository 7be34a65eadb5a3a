/- Challenges as a header, by the document. -/
import Derived.Test.YteldgpkkgnfiaaaDoorPrn
import Derived.Test.YteldgpkkgnfiaaaDoorRefQt
import Derived.Test.YteldgpkkgnfiaaaDoorFlt
namespace Go.Proofs.YteldgpkkgnfiaaaDoor
open Go.RowKit

theorem refValue_some (s : ByteArray) (hs : s.size ≤ 3000) (t : List UInt8) (h : valueO s.data.toList = some t) (w : World) :
    Calls Tryd.prog 8 #[.string s] w fun e w' => e = .returned (.tuple #[.string (bs t), .int .i64 0]) ∧ w' = w := by
  refine (refValue_any s hs w).mono ?_
  rintro e w' ⟨rfl, ⟨rfl, hi⟩ | ⟨hi, ⟨rfl, hq⟩ | ⟨rfl, hq⟩⟩⟩
  · rw [valueO_yes s hi] at h
    cases h
    rw [bs_self]
    exact ⟨rfl, rfl⟩
  · rw [valueO_no s hi, hq] at h
    cases h
    exact ⟨rfl, rfl⟩
  · rw [valueO_no s hi, hq] at h
    cases h
theorem refValue_none (s : ByteArray) (hs : s.size ≤ 3000) (h : valueO s.data.toList = none) (w : World) :
    Calls Tryd.prog 8 #[.string s] w fun e w' => e = .returned (.tuple #[.string ⟨#[]⟩, .int .i64 3]) ∧ w' = w := by
  refine (refValue_any s hs w).mono ?_
  rintro e w' ⟨rfl, ⟨rfl, hi⟩ | ⟨hi, ⟨rfl, hq⟩ | ⟨rfl, hq⟩⟩⟩
  · rw [valueO_yes s hi] at h
    cases h
  · rw [valueO_no s hi, hq] at h
    cases h
  · exact ⟨rfl, rfl⟩
/-- What the document's Print answers. -/
def RPrtAns (xs : List Chal) (e : Ending) : Prop :=
  (∃ t, printL 0 xs = .ok t ∧ e = .returned (.tuple #[.string (bs t), .agg #[.int .i64 0, .int .i64 (-1)]])) ∨
  (∃ k : Nat, printL 0 xs = .error k ∧ e = .returned (.tuple #[.string ⟨#[]⟩, .agg #[.int .i64 3, .int .i64 (k : Int)]]))
set_option maxRecDepth 100000 in
set_option maxHeartbeats 4000000 in
theorem refPrint_any (cs : List ChV) (hs : Slim cs) (a0 : Option Addr) (len cap b off : Nat) (w : World) (hx : Chals w a0 len b off cs) :
    Calls Tryd.prog 5 #[.slice a0 len cap] w fun e w' => RPrtAns (xsOf cs) e ∧ Below w.heap.size w w' := by
  have HX : Hid (Chals w a0 len b off cs) := hx
  have HS : Hid (Slim cs) := hs
  have hl := hx.len_eq
  have hlen : len ≤ 1000 := by have := hs.1; omega
  clear hx hs
  go_enter Tryd.func5, Tryd.ntmps5
  go_wp2
  have HB0 : Hid (Below w.heap.size w (w.alloc (.cells #[.int .i64 0, .int .i64 0] 26))) := (Below.refl _ _).alloc (Nat.le_refl _) _
  go_loopw [4, 13] (fun v i wr => ∃ (k : Nat) (o : ByteArray), k ≤ len ∧ i = .int .i64 k ∧ v = .string o ∧ o.size ≤ 80000 ∧ Hid (PrintAt (xsOf cs) o.data.toList k ∧ o.size ≤ prtW ((xsOf cs).take k) ∧ Below w.heap.size w wr ∧ wr.heap[w.heap.size]? = some (.cells #[.int .i64 0, .int .i64 0] 26 (0, 0)))) (fun _ i _ => len - (intOf i).toNat)
  case atStart => exact ⟨0, _, Nat.zero_le _, rfl, rfl, by decide, ⟨printAt_start _, Nat.zero_le _, HB0.out, heap_alloc_new w _⟩⟩
  case round =>
    obtain ⟨k, o, hk, rfl, rfl, ho8, HI⟩ := hrel
    by_cases hlt : k < len
    · obtain ⟨c, hck⟩ : ∃ c, cs[k]? = some c := ⟨cs[k]'(by omega), List.getElem?_eq_getElem (by omega)⟩
      have HC : Hid (cs[k]? = some c) := hck
      have hX := HX.out.below HI.out.2.2.1
      obtain ⟨ha0, hbl⟩ := hX.lies (by omega)
      have hc1 := hX.one k c hck
      have hc2 := hX.two k c hck
      have hc3 := hX.three k c hck
      obtain ⟨hcs1, hcs2⟩ := HS.out.2.1 c (List.mem_of_getElem? hck)
      have HSC : Hid (∀ p ∈ c.x.params, p.1.size ≤ 3000 ∧ p.2.size ≤ 3000) := hcs1.2
      have hcl : c.len ≤ 1000 := hcs1.1
      obtain ⟨hz1, hz2⟩ := hcs2
      have HW : Hid (o.size + (2 * chW c.x + 5 * c.x.params.length + 3) ≤ 80000) := by
        have h1 := HI.out.2.1
        have h2 := prtW_snoc _ _ _ (xsOf_at hck)
        have h3 := prtW_take (xsOf cs) (k + 1)
        have h4 := HS.out.2.2
        show _ ≤ _
        omega
      have HXC : Hid (ChOk wr c) := hX.pars c (List.mem_of_getElem? hck)
      subst ha0
      clear hck hX hcs1
      have HB1 : Hid (Below wr.heap.size wr (wr.alloc (.cells #[.string c.x.scheme, .string c.x.token, .slice c.a c.len c.cap] 36))) := (Below.refl _ _).alloc (Nat.le_refl _) _
      have hbox : ∀ j v, #[Value.string c.x.scheme, .string c.x.token, .slice c.a c.len c.cap][j]? = some v → (wr.alloc (.cells #[.string c.x.scheme, .string c.x.token, .slice c.a c.len c.cap] 36)).cell? ⟨wr.heap.size, j, none⟩ = some v := fun j v hv => (World.cell?_alloc_mark _ _ _ _ _).trans hv
      have HBOX : Hid (∀ j v, #[Value.string c.x.scheme, .string c.x.token, .slice c.a c.len c.cap][j]? = some v → (wr.alloc (.cells #[.string c.x.scheme, .string c.x.token, .slice c.a c.len c.cap] 36)).cell? ⟨wr.heap.size, j, none⟩ = some v) := hbox
      clear hbox
      obtain ⟨hE1, hE2⟩ : c.x.scheme.data.toList.length = c.x.scheme.size ∧ c.x.token.data.toList.length = c.x.token.size := ⟨Array.length_toList, Array.length_toList⟩
      have HES : Hid (c.x.scheme.data.toList.length = c.x.scheme.size ∧ c.x.token.data.toList.length = c.x.token.size) := ⟨hE1, hE2⟩
      clear hE1 hE2
      go_upto_if 19 with fail
      go_cut [4] (fun v wc => ∃ o1 : ByteArray, v = .string o1 ∧ o1.size ≤ o.size + 2 ∧ Hid (o1.data.toList = o.data.toList ++ sepC k) ∧ wc = wr.alloc (.cells #[.string c.x.scheme, .string c.x.token, .slice c.a c.len c.cap] 36))
      case first =>
        by_cases h0 : k = 0
        · have HSP : Hid (o.data.toList = o.data.toList ++ sepC k) := by show _ = _; rw [h0]; simp [sepC]
          have hk0 : decide (0 < k) = false := by simp; omega
          rw [hk0]
          go_wp2
          go_meet
          exact ⟨o, rfl, by omega, HSP, rfl⟩
        · have HSP : Hid ((o ++ ⟨#[44, 32]⟩ : ByteArray).data.toList = o.data.toList ++ sepC k) := by show _ = _; unfold sepC; rw [if_neg h0]; simp
          have hk0 : decide (0 < k) = true := by simp; omega
          rw [hk0]
          have hsz : (o ++ ⟨#[44, 32]⟩ : ByteArray).size ≤ o.size + 2 := by rw [ByteArray.size_append]; exact Nat.le_refl _
          have HSZ : Hid ((o ++ ⟨#[44, 32]⟩ : ByteArray).size ≤ o.size + 2) := hsz
          clear hsz
          go_wp2
          go_meet
          exact ⟨_, rfl, HSZ.out, HSP, rfl⟩
      case rest =>
      obtain ⟨o1, rfl, hz3, HO1, hwc⟩ := hcut
      obtain rfl := hwc.symm
      clear hwc
      have hd0 := HBOX.out 0 _ rfl
      have hd1 := HBOX.out 1 _ rfl
      have hd2 := HBOX.out 2 _ rfl
      have HO2 : Hid ((o1 ++ c.x.scheme : ByteArray).data.toList = o.data.toList ++ sepC k ++ c.x.scheme.data.toList) := by show _ = _; rw [← HO1.out]; simp
      obtain ⟨o2, HO2'⟩ : ∃ o2, Hid ((o1 ++ c.x.scheme : ByteArray) = o2) := ⟨_, rfl⟩
      rw [HO2'.out] at HO2
      have hz4 : o2.size ≤ o.size + 2 + c.x.scheme.size := by rw [← HO2'.out, ByteArray.size_append]; omega
      go_upto_if 28 with fail
      rw [HO2'.out]
      clear hd0
      go_cut [4] (fun v wc => ∃ o3 : ByteArray, v = .string o3 ∧ Hid (o3.size ≤ o.size + 3 + c.x.scheme.size + c.x.token.size ∧ o3.data.toList = o.data.toList ++ sepC k ++ c.x.scheme.data.toList ++ tokT c.x.token) ∧ wc = wr.alloc (.cells #[.string c.x.scheme, .string c.x.token, .slice c.a c.len c.cap] 36))
      case first =>
        by_cases ht : c.x.token.size = 0
        · have HT : Hid (tokT c.x.token = []) := by show _ = _; unfold tokT; rw [if_pos ht]
          have he : (!c.x.token.toList.isEmpty) = false := by rw [empty_yes ht]; rfl
          rw [he]
          go_wp2
          go_meet
          exact ⟨o2, rfl, ⟨by omega, by rw [HT.out, List.append_nil, HO2.out]⟩, rfl⟩
        · have HT : Hid ((o2 ++ (⟨#[32]⟩ ++ c.x.token) : ByteArray).data.toList = o.data.toList ++ sepC k ++ c.x.scheme.data.toList ++ tokT c.x.token) := by show _ = _; unfold tokT; rw [if_neg ht, ← HO2.out]; simp
          have he : (!c.x.token.toList.isEmpty) = true := by rw [empty_no ht]; rfl
          rw [he]
          have HSZ : Hid ((o2 ++ (⟨#[32]⟩ ++ c.x.token) : ByteArray).size ≤ o.size + 3 + c.x.scheme.size + c.x.token.size) := by
            show _ ≤ _
            rw [ByteArray.size_append, ByteArray.size_append]
            have : (⟨#[32]⟩ : ByteArray).size = 1 := rfl
            omega
          go_wp2
          go_meet
          exact ⟨_, rfl, ⟨HSZ.out, HT.out⟩, rfl⟩
      case rest =>
      obtain ⟨o3, rfl, HO3, hwc⟩ := hcut
      obtain rfl := hwc.symm
      clear hwc hd1
      obtain ⟨a, hA⟩ : ∃ a, c.a = a := ⟨_, rfl⟩
      rw [hA] at hd2 HB1 ⊢
      have HA' : Hid (c.a = a) := hA
      clear hA HBOX
      have HF1 : Hid ((wr.alloc (.cells #[.string c.x.scheme, .string c.x.token, .slice a c.len c.cap] 36)).heap[w.heap.size]? = some (.cells #[.int .i64 0, .int .i64 0] 26 (0, 0))) := below_block HB1.out HI.out.2.2.2
      have HBW : Hid (Below w.heap.size w (wr.alloc (.cells #[.string c.x.scheme, .string c.x.token, .slice a c.len c.cap] 36)) ∧ w.heap.size < (wr.alloc (.cells #[.string c.x.scheme, .string c.x.token, .slice a c.len c.cap] 36)).heap.size) := ⟨HI.out.2.2.1.trans (HB1.out.mono HI.out.2.2.1.size), (Array.getElem?_eq_some_iff.1 HF1.out).1⟩
      have HXC1 : Hid (ChOk (wr.alloc (.cells #[.string c.x.scheme, .string c.x.token, .slice a c.len c.cap] 36)) c) := HXC.out.below HB1.out
      obtain ⟨m, HM⟩ : ∃ m, Hid (o.data.toList ++ sepC k ++ c.x.scheme.data.toList ++ tokT c.x.token = m) := ⟨_, rfl⟩
      rw [HM.out] at HO3
      have HWM : Hid (o3.size + (2 * parW c.x.params + 5 * c.x.params.length) ≤ 80000 ∧ m.length = o3.size) := by
        have h1 := HW.out
        unfold chW at h1
        have h2 := HO3.out.1
        refine ⟨by omega, ?_⟩
        rw [← HO3.out.2, Array.length_toList]
        rfl
      generalize hW1 : wr.alloc (.cells #[.string c.x.scheme, .string c.x.token, .slice a c.len c.cap] 36) = W1 at HF1 HBW HXC1 hd2 ⊢
      clear hW1 HB1 HXC HO1 HO2 HO2' hz4 hz3
      go_wp2
      go_loopw [4, 37] (fun v i wx => ∃ (j : Nat) (o4 : ByteArray) (q : List UInt8), j ≤ c.len ∧ i = .int .i64 j ∧ v = .string o4 ∧ o4.size ≤ 80000 ∧ Hid (ParsAt c.x.params q j ∧ o4.data.toList = m ++ q ∧ q.length ≤ 2 * parW (c.x.params.take j) + 5 * j) ∧ Below W1.heap.size W1 wx) (fun _ i _ => c.len - (intOf i).toNat)
      case atStart => exact ⟨0, o3, [], Nat.zero_le _, rfl, rfl, by have := HWM.out.1; omega, ⟨parsAt_start _, by rw [List.append_nil]; exact HO3.out.2, by simp⟩, Below.refl _ _⟩
      case round =>
        obtain ⟨j, o4, q, hj, rfl, rfl, ho4, HJ, hbx⟩ := hrel
        by_cases hjl : j < c.len
        · obtain ⟨p, hpj⟩ : ∃ p, c.x.params[j]? = some p := ⟨c.x.params[j]'hjl, List.getElem?_eq_getElem hjl⟩
          have HP : Hid (c.x.params[j]? = some p) := hpj
          obtain ⟨hz4, hz5⟩ := HSC.out p (List.mem_of_getElem? hpj)
          have hX2 := HXC1.out.below hbx
          obtain ⟨ha, hbl2⟩ := hX2.lies (by omega)
          have hp1 := hX2.one j p hpj
          have hp2 := hX2.two j p hpj
          obtain rfl : a = some ⟨c.b, c.off, none⟩ := HA'.out.symm.trans ha
          have HFx : Hid (wr.heap[w.heap.size]? = some (.cells #[.int .i64 0, .int .i64 0] 26 (0, 0))) := below_block hbx HF1.out
          have HBx : Hid (Below w.heap.size w wr ∧ w.heap.size < wr.heap.size) := ⟨HBW.out.1.trans (hbx.mono (Nat.le_of_lt HBW.out.2)), Nat.lt_of_lt_of_le HBW.out.2 hbx.size⟩
          clear hpj ha hX2
          rcases hv : valueO p.2.data.toList with _ | v
          · have HA : Hid (printL 0 (xsOf cs) = .error k) := printAt_bad HI.out.1 (xsOf_at HC.out) (chalT_none (parsAt_bad HJ.out.1 HP.out (parT_none hv)))
            have hf1 : (wr.alloc (.cells #[.string p.1, .string p.2] 38)).heap[w.heap.size]? = some (.cells #[.int .i64 0, .int .i64 0] 26 (0, 0)) := below_block ((Below.refl _ _).alloc (Nat.le_refl _) _) HFx.out
            have f0 := cells_of hf1 0 _ rfl
            have f1 := cells_of hf1 1 _ rfl
            have g0 : (wr.alloc (.cells #[.string p.1, .string p.2] 38)).frozen? ⟨w.heap.size, 0, none⟩ = false := by simp [World.frozen?, hf1]
            have g1 : (wr.alloc (.cells #[.string p.1, .string p.2] 38)).frozen? ⟨w.heap.size, 1, none⟩ = false := by simp [World.frozen?, hf1]
            have HB5 : Hid (Below w.heap.size w (wr.alloc (.cells #[.string p.1, .string p.2] 38))) := HBx.out.1.alloc (Nat.le_of_lt HBx.out.2) _
            clear hf1
            go_wp2_with fail
            refine (refValue_none p.2 hz5 hv _).mono ?_
            rintro e w4 ⟨rfl, hw4⟩
            obtain rfl := hw4.symm
            clear hw4 hv
            go_wp2
            obtain ⟨e0, e1⟩ := fault_end f0 f1 (.int .i64 3) (.int .i64 (k : Int))
            exact bodyPost_ret (v := .tuple #[.string ⟨#[]⟩, .agg #[.int .i64 3, .int .i64 (k : Int)]]) (by simp [results, Tryd.f5, go_sem, e0, e1]) rfl ⟨.inr ⟨k, HA, rfl⟩, (HB5.out.setCell (p := ⟨w.heap.size, 0, none⟩) (Nat.le_refl _) _).setCell (p := ⟨w.heap.size, 1, none⟩) (Nat.le_refl _) _⟩
          · have HV : Hid (parT p = some (32 :: (p.1.data.toList ++ 61 :: v))) := parT_some hv
            have HN : Hid (ParsAt c.x.params (q ++ (sepP (j == 0) ++ 32 :: (p.1.data.toList ++ 61 :: v))) (j + 1)) := parsAt_next HJ.out.1 HP.out HV.out
            obtain ⟨tv, HTV⟩ : ∃ tv, Hid (bs v = tv) := ⟨_, rfl⟩
            have HNL : Hid ((q ++ (sepP (j == 0) ++ 32 :: (p.1.data.toList ++ 61 :: v))).length ≤ 2 * parW (c.x.params.take (j + 1)) + 5 * (j + 1) ∧ m.length + (q ++ (sepP (j == 0) ++ 32 :: (p.1.data.toList ++ 61 :: v))).length ≤ 80000) := by
              have h1 := HJ.out.2.2
              have h2 := parW_snoc _ _ _ HP.out
              have h3 := parT_len _ _ HV.out
              have h4 : (sepP (j == 0)).length ≤ 1 := by cases (j == 0) <;> simp [sepP]
              have h5 := HWM.out
              have h6 := parW_take c.x.params (j + 1)
              have h7 : c.len = c.x.params.length := rfl
              have h8 : (q ++ (sepP (j == 0) ++ 32 :: (p.1.data.toList ++ 61 :: v))).length ≤ 2 * parW (c.x.params.take (j + 1)) + 5 * (j + 1) := by
                rw [List.length_append, List.length_append]
                omega
              exact ⟨h8, by omega⟩
            have hval : ∀ w, Calls Tryd.prog 8 #[.string p.2] w fun e w' => e = .returned (.tuple #[.string tv, .int .i64 0]) ∧ w' = w := fun w => by rw [← HTV.out]; exact refValue_some p.2 hz5 v hv w
            have htz : tv.size ≤ 80000 := by
              have h1 := HNL.out.2
              have h2 : tv.size = v.length := by rw [← HTV.out, bs_size]
              simp only [List.length_append, List.length_cons] at h1
              omega
            clear hv
            have hb6 := hbx.alloc hbx.size (.cells #[.string p.1, .string p.2] 38)
            by_cases h0 : j = 0
            · have HSP : Hid (sepP (j == 0) = []) := by show _ = _; rw [h0]; rfl
              have hk0 : ¬ (0 : Int) < (j : Int) := by omega
              rw [HSP.out, List.nil_append] at HN HNL
              have HTX : Hid ((o4 ++ (⟨#[32]⟩ ++ p.1 ++ ⟨#[61]⟩ ++ tv) : ByteArray).data.toList = m ++ (q ++ 32 :: (p.1.data.toList ++ 61 :: v))) := by
                show _ = _
                rw [← HTV.out, ← List.append_assoc, ← HJ.out.2.1]
                simp [bs]
              have HTZ : Hid ((o4 ++ (⟨#[32]⟩ ++ p.1 ++ ⟨#[61]⟩ ++ tv) : ByteArray).size ≤ 80000) := by
                show _ ≤ _
                have h1 := congrArg List.length HTX.out
                rw [Array.length_toList] at h1
                have h3 : (o4 ++ (⟨#[32]⟩ ++ p.1 ++ ⟨#[61]⟩ ++ tv) : ByteArray).data.size = (o4 ++ (⟨#[32]⟩ ++ p.1 ++ ⟨#[61]⟩ ++ tv) : ByteArray).size := rfl
                have h2 := HNL.out.2
                rw [List.length_append] at h1
                omega
              clear h0
              go_wp2_with (go_at_call 8; refine (hval _).mono ?_; rintro e w4 ⟨rfl, hw4⟩; obtain rfl := hw4.symm; clear hw4)
              go_roundw
              case rel => exact ⟨j + 1, _, _, by omega, by go_num, rfl, HTZ.out, ⟨HN.out, HTX.out, HNL.out.1⟩, hb6⟩
              case measure => simp [intOf]; omega
            · have HSP : Hid (sepP (j == 0) = [44]) := by show _ = _; rw [beq_eq_false_iff_ne.2 h0]; rfl
              have hk0 : (0 : Int) < (j : Int) := by omega
              rw [HSP.out] at HN HNL
              have HTX : Hid ((o4 ++ ⟨#[44]⟩ ++ (⟨#[32]⟩ ++ p.1 ++ ⟨#[61]⟩ ++ tv) : ByteArray).data.toList = m ++ (q ++ ([44] ++ 32 :: (p.1.data.toList ++ 61 :: v)))) := by
                show _ = _
                rw [← HTV.out, ← List.append_assoc, ← HJ.out.2.1]
                simp [bs]
              have HTZ : Hid ((o4 ++ ⟨#[44]⟩ ++ (⟨#[32]⟩ ++ p.1 ++ ⟨#[61]⟩ ++ tv) : ByteArray).size ≤ 80000) := by
                show _ ≤ _
                have h1 := congrArg List.length HTX.out
                rw [Array.length_toList] at h1
                have h3 : (o4 ++ ⟨#[44]⟩ ++ (⟨#[32]⟩ ++ p.1 ++ ⟨#[61]⟩ ++ tv) : ByteArray).data.size = (o4 ++ ⟨#[44]⟩ ++ (⟨#[32]⟩ ++ p.1 ++ ⟨#[61]⟩ ++ tv) : ByteArray).size := rfl
                have h2 := HNL.out.2
                rw [List.length_append] at h1
                omega
              go_wp2_with (go_at_call 8; refine (hval _).mono ?_; rintro e w4 ⟨rfl, hw4⟩; obtain rfl := hw4.symm; clear hw4)
              go_roundw
              case rel => exact ⟨j + 1, _, _, by omega, by go_num, rfl, HTZ.out, ⟨HN.out, HTX.out, HNL.out.1⟩, hb6⟩
              case measure => simp [intOf]; omega
        · have HT : Hid (chalT c.x = some (c.x.scheme.data.toList ++ tokT c.x.token ++ q)) := chalT_some (parsAt_end HJ.out.1 (by unfold ChV.len at hjl; omega))
          have HN : Hid (PrintAt (xsOf cs) o4.data.toList (k + 1)) := by
            have h1 := printAt_next HI.out.1 (xsOf_at HC.out) HT.out
            have h2 : o4.data.toList = o.data.toList ++ (sepC k ++ (c.x.scheme.data.toList ++ tokT c.x.token ++ q)) := by
              rw [HJ.out.2.1, ← HM.out]
              simp
            show PrintAt _ _ _
            rw [h2]
            exact h1
          have HNL : Hid (o4.size ≤ prtW ((xsOf cs).take (k + 1))) := by
            show _ ≤ _
            have h2 := prtW_snoc _ _ _ (xsOf_at HC.out)
            have h3 := HI.out.2.1
            have h4 := HWM.out
            have h5 := HO3.out.1
            have h6 := HJ.out.2.2
            have h7 := parW_take c.x.params j
            have h8 := congrArg List.length HJ.out.2.1
            rw [Array.length_toList, List.length_append] at h8
            have h9 : o4.data.size = o4.size := rfl
            have h10 : c.len = c.x.params.length := rfl
            unfold chW at h2
            omega
          have HFx : Hid (wr.heap[w.heap.size]? = some (.cells #[.int .i64 0, .int .i64 0] 26 (0, 0))) := below_block hbx HF1.out
          have HBx : Hid (Below w.heap.size w wr) := HBW.out.1.trans (hbx.mono (Nat.le_of_lt HBW.out.2))
          go_wp2
          go_roundw
          case rel => exact ⟨k + 1, o4, by omega, by go_num, rfl, ho4, ⟨HN.out, HNL.out, HBx.out, HFx.out⟩⟩
          case measure => simp [intOf]; omega
    · have HA : Hid (printL 0 (xsOf cs) = .ok o.data.toList) := printAt_end HI.out.1 (by unfold xsOf; simp; omega)
      have f0 := cells_of HI.out.2.2.2 0 _ rfl
      have f1 := cells_of HI.out.2.2.2 1 _ rfl
      have g0 : wr.frozen? ⟨w.heap.size, 0, none⟩ = false := by simp [World.frozen?, HI.out.2.2.2]
      have g1 : wr.frozen? ⟨w.heap.size, 1, none⟩ = false := by simp [World.frozen?, HI.out.2.2.2]
      have hwl : w.heap.size < wr.heap.size := (Array.getElem?_eq_some_iff.1 HI.out.2.2.2).1
      go_wp2_with (go_at_call 9; refine (goodF_any _).mono ?_; rintro e w5 ⟨rfl, hb5⟩; have e0 := (hb5.cell (p := ⟨w.heap.size, 0, none⟩) hwl).trans f0; have e1 := (hb5.cell (p := ⟨w.heap.size, 1, none⟩) hwl).trans f1; have e2 := (hb5.frozen (p := ⟨w.heap.size, 0, none⟩) hwl).trans g0; have e3 := (hb5.frozen (p := ⟨w.heap.size, 1, none⟩) hwl).trans g1; clear f0 f1 g0 g1)
      obtain ⟨k0, k1⟩ := fault_end e0 e1 (.int .i64 0) (.int .i64 (-1))
      refine bodyPost_ret (v := .tuple #[.string o, .agg #[.int .i64 0, .int .i64 (-1)]]) (by simp [results, Tryd.f5, go_sem, k0, k1]) rfl ⟨.inl ⟨_, HA, by rw [bs_self]⟩, ((HI.out.2.2.1.trans (hb5.mono (Nat.le_of_lt hwl))).setCell (p := ⟨w.heap.size, 0, none⟩) (Nat.le_refl _) _).setCell (p := ⟨w.heap.size, 1, none⟩) (Nat.le_refl _) _⟩
end Go.Proofs.YteldgpkkgnfiaaaDoor
