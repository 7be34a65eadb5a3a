/- Whether challenges are fair. -/
import Derived.Test.YtooaiamfbmjmnaaGreatDoorFai
import Derived.Test.YtooaiamfbmjmnaaGreatDoorHvyA
namespace Go.Proofs.YtooaiamfbmjmnaaGreatDoor
open Go.RowKit Go.Shelf

theorem mt_yes {s : ByteArray} (h : s.size = 0) : s.toList.isEmpty = true := by
  rw [ByteArray.toList_eq]
  have : s.data.toList.length = 0 := by rw [Array.length_toList]; exact h
  rw [List.eq_nil_of_length_eq_zero this]
  rfl
theorem mt_no {s : ByteArray} (h : s.size ≠ 0) : s.toList.isEmpty = false := by
  rw [ByteArray.toList_eq]
  cases e : s.data.toList with
  | nil =>
    have : s.data.toList.length = s.size := Array.length_toList
    rw [e] at this
    exact absurd this.symm h
  | cons x r => rfl
theorem fair_all {cs : List ChV} {k : Nat} {c : ChV} (h : ∀ d ∈ cs.take k, FairC d.x) (hc : cs[k]? = some c) (hf : FairC c.x) : ∀ d ∈ cs.take (k + 1), FairC d.x := by
  obtain ⟨hk, e⟩ := List.getElem?_eq_some_iff.1 hc
  rw [List.take_succ_eq_append_getElem hk, e]
  intro d hd
  rcases List.mem_append.1 hd with h1 | h1
  · exact h d h1
  · rw [List.mem_singleton.1 h1]; exact hf
theorem pars_take {w : World} {a0 : Option Addr} {len b off : Nat} {ps : List Par} (h : Pars w a0 len b off ps) (j : Nat) (hj : j ≤ len) : Pars w a0 j b off (ps.take j) := by
  have hl := h.len_eq
  refine ⟨by rw [List.length_take]; omega, fun h0 => h.lies (by omega), fun i p hp => h.one i p ?_, fun i p hp => h.two i p ?_⟩
  · rw [List.getElem?_take] at hp
    split at hp
    · exact hp
    · cases hp
  · rw [List.getElem?_take] at hp
    split at hp
    · exact hp
    · cases hp
/-- What fair answers. -/
def FarAns (cs : List ChV) (len : Nat) (e : Ending) : Prop := ∃ r : Bool, e = .returned (.bool r) ∧ (r = true → len ≤ 8 ∧ ∀ c ∈ cs, FairC c.x)
theorem far_no (cs : List ChV) (len : Nat) : FarAns cs len (.returned (.bool false)) := ⟨false, rfl, fun e => by cases e⟩
set_option maxRecDepth 100000 in
set_option maxHeartbeats 8000000 in
theorem fair_any (cs : List ChV) (hh : ∀ c ∈ cs, Held c.x) (a0 : Option Addr) (len cap b off : Nat) (hlen : len ≤ 9223372036854775807) (hpl : ∀ c ∈ cs, Room c) (w : World) (hx : Chals w a0 len b off cs) :
    Calls Tryz.prog 9 #[.slice a0 len cap] w fun e w' => FarAns cs len e ∧ Below w.heap.size w w' := by
  have HX : Hid (Chals w a0 len b off cs) := hx
  have hl := hx.len_eq
  clear hx
  by_cases h8 : (8 : Int) < (len : Int)
  · go_enter Tryz.func9, Tryz.ntmps9
    go_wp2
    go_ret
    exact ⟨far_no _ _, Below.refl _ _⟩
  have HH : Hid (∀ c ∈ cs, Held c.x) := hh
  have HPL : Hid (∀ c ∈ cs, Room c) := hpl
  clear hh hpl
  go_enter Tryz.func9, Tryz.ntmps9
  go_wp2
  go_loopw [12] (fun i wr => ∃ (k : Nat), k ≤ len ∧ i = .int .i64 k ∧ Hid ((∀ c ∈ cs.take k, FairC c.x) ∧ Below w.heap.size w wr)) (fun i _ => len - (intOf i).toNat)
  case atStart => exact ⟨0, Nat.zero_le _, rfl, ⟨fun c hc => by simp at hc, Below.refl _ _⟩⟩
  case round =>
    obtain ⟨k, hk, rfl, HK⟩ := hrel
    by_cases hlt : k < len
    · obtain ⟨c, hck⟩ : ∃ c, cs[k]? = some c := ⟨cs[k]'(by omega), List.getElem?_eq_getElem (by omega)⟩
      have HC : Hid (cs[k]? = some c) := hck
      have HM : Hid (c ∈ cs) := List.mem_of_getElem? hck
      have hX := HX.out.below HK.out.2
      obtain ⟨ha0, hbl⟩ := hX.lies (by omega)
      have hc1 := hX.one k c hck
      have hc2 := hX.two k c hck
      have hc3 := hX.three k c hck
      obtain ⟨hrc, hrm, hpl⟩ := HPL.out c HM.out
      obtain ⟨ca, HCA⟩ : ∃ ca, Hid (c.a = ca) := ⟨_, rfl⟩
      have hPP := hX.pars c HM.out
      unfold ChOk at hPP
      rw [HCA.out] at hc3 hPP
      obtain ⟨hz1, hz2, hz3⟩ := HH.out c HM.out
      have HZ3 : Hid (∀ p ∈ c.x.params, p.1.size ≤ 140737488355328 ∧ p.2.size ≤ 140737488355328) := hz3
      have hb1 : Below wr.heap.size wr (wr.alloc (.cells #[.string c.x.scheme, .string c.x.token, .slice ca c.len c.cap] 24)) := (Below.refl _ _).alloc (Nat.le_refl _) _
      have HP : Hid (Pars (wr.alloc (.cells #[.string c.x.scheme, .string c.x.token, .slice ca c.len c.cap] 24)) ca c.len c.b c.off c.x.params) := hPP.below hb1
      have HB1 : Hid (Below w.heap.size w (wr.alloc (.cells #[.string c.x.scheme, .string c.x.token, .slice ca c.len c.cap] 24))) := HK.out.2.trans (hb1.mono HK.out.2.size)
      have hkL : (k : Int) < (len : Int) := by omega
      subst ha0
      clear hck hX hb1 hz3 hPP
      by_cases h60 : (60 : Int) < (c.x.scheme.size : Int) + (c.x.token.size : Int)
      · go_wp2
        go_ret
        exact ⟨far_no _ _, HB1.out⟩
      by_cases h16 : (16 : Int) < (c.len : Int)
      · go_wp2
        go_ret
        exact ⟨far_no _ _, HB1.out⟩
      cases hi : isL c.x.scheme.data.toList
      · go_wp2_with fail
        refine (is_any c.x.scheme (by omega) _).mono ?_
        rintro e w2 ⟨rfl, hw⟩
        obtain rfl := hw.symm
        rw [hi]
        go_wp2
        go_ret
        exact ⟨far_no _ _, HB1.out⟩
      have HI : Hid (isL c.x.scheme.data.toList = true) := hi
      clear hi
      have hbox : ∀ (j : Nat) (v : Value), #[Value.string c.x.scheme, .string c.x.token, .slice ca c.len c.cap][j]? = some v → (wr.alloc (.cells #[.string c.x.scheme, .string c.x.token, .slice ca c.len c.cap] 24)).cell? ⟨wr.heap.size, j, none⟩ = some v := fun j v hv => (World.cell?_alloc_mark _ _ _ _ _).trans hv
      go_wp2_with fail
      refine (is_any c.x.scheme (by omega) _).mono ?_
      rintro e w2 ⟨rfl, hw⟩
      obtain rfl := hw.symm
      rw [HI.out]
      clear hw
      have hwz : (wr.alloc (.cells #[.string c.x.scheme, .string c.x.token, .slice ca c.len c.cap] 24)).heap.size = wr.heap.size + 1 := by simp
      have b1 := hbox 1 _ rfl
      have b2 := hbox 2 _ rfl
      generalize hW4 : wr.alloc (.cells #[.string c.x.scheme, .string c.x.token, .slice ca c.len c.cap] 24) = W4 at HP HB1 hwz b1 b2 ⊢
      clear hW4 hbox
      by_cases h0 : c.x.token.size = 0
      · have he : c.x.token.toList.isEmpty = true := mt_yes h0
        have HBX : Hid (∀ w', Below W4.heap.size W4 w' → w'.cell? ⟨wr.heap.size, 2, none⟩ = some (.slice ca c.len c.cap)) := fun w' hb => (hb.cell (p := ⟨wr.heap.size, 2, none⟩) (by show wr.heap.size < _; omega)).trans b2
        go_wp2
        go_loopw [56] (fun i w5 => ∃ (j : Nat), j ≤ c.len ∧ i = .int .i64 j ∧ Hid (InK c.x.params j ∧ Below W4.heap.size W4 w5)) (fun i _ => c.len - (intOf i).toNat)
        case atStart => exact ⟨0, Nat.zero_le _, rfl, ⟨⟨fun p hp => by simp at hp, trivial⟩, Below.refl _ _⟩⟩
        case round =>
          obtain ⟨j, hj, rfl, HJ⟩ := hrel
          by_cases hjl : j < c.len
          · obtain ⟨p, hpj⟩ : ∃ p, c.x.params[j]? = some p := ⟨c.x.params[j]'hjl, List.getElem?_eq_getElem hjl⟩
            have HPJ : Hid (c.x.params[j]? = some p) := hpj
            have hP := HP.out.below HJ.out.2
            obtain ⟨hca, hcb⟩ := hP.lies (by omega)
            have hp1 := hP.one j p hpj
            have hp2 := hP.two j p hpj
            obtain ⟨hz4, hz5⟩ := HZ3.out p (List.mem_of_getElem? hpj)
            have hb6 : Below wr.heap.size wr (wr.alloc (.cells #[.string p.1, .string p.2] 31)) := (Below.refl _ _).alloc (Nat.le_refl _) _
            have HP6 : Hid (Pars (wr.alloc (.cells #[.string p.1, .string p.2] 31)) ca j c.b c.off (c.x.params.take j)) := (pars_take hP j hj).below hb6
            have HB6 : Hid (Below W4.heap.size W4 (wr.alloc (.cells #[.string p.1, .string p.2] 31))) := HJ.out.2.trans (hb6.mono HJ.out.2.size)
            have HB7 : Hid (Below w.heap.size w (wr.alloc (.cells #[.string p.1, .string p.2] 31))) := HB1.out.trans (HB6.out.mono HB1.out.size)
            have b6 := HBX.out _ HB6.out
            have hcell : (wr.alloc (.cells #[.string p.1, .string p.2] 31)).cell? ⟨wr.heap.size, 0, none⟩ = some (.string p.1) := World.cell?_alloc_mark _ _ _ _ _
            have HN : Hid ((wr.alloc (.cells #[.string p.1, .string p.2] 31)).cell? ⟨wr.heap.size, 0, none⟩ = some (.string p.1) ∧ wr.heap.size < (wr.alloc (.cells #[.string p.1, .string p.2] 31)).heap.size) := ⟨hcell, by simp⟩
            clear hcell
            have hjL : (j : Int) < (c.len : Int) := by omega
            subst hca
            clear hpj hP hb6
            by_cases h100 : (100 : Int) < (p.1.size : Int) + (p.2.size : Int)
            · go_wp2
              go_ret
              exact ⟨far_no _ _, HB7.out⟩
            cases hi : isL p.1.data.toList
            · go_wp2_with fail
              refine (is_any p.1 (by omega) _).mono ?_
              rintro e w2 ⟨rfl, hw⟩
              obtain rfl := hw.symm
              rw [hi]
              go_wp2
              go_ret
              exact ⟨far_no _ _, HB7.out⟩
            have HIP : Hid (isL p.1.data.toList = true) := hi
            clear hi
            go_wp2_with fail
            refine (is_any p.1 (by omega) _).mono ?_
            rintro e w2 ⟨rfl, hw⟩
            obtain rfl := hw.symm
            rw [HIP.out]
            clear hw
            have hjc : j ≤ c.cap := by omega
            have HSY : Hid (∀ w', Below (wr.alloc (.cells #[.string p.1, .string p.2] 31)).heap.size (wr.alloc (.cells #[.string p.1, .string p.2] 31)) w' → ∀ q ∈ c.x.params.take j, Calls Tryz.prog 30 #[.agg #[.string q.1, .string q.2], .pointer (some ⟨wr.heap.size, 0, none⟩)] w' fun e w'' => e = .returned (.bool (sameL p.1.data.toList q.1.data.toList)) ∧ Below w'.heap.size w' w'') := fun w' hb q hq => fairOne_any q p.1 (by have := (HJ.out.1.1 q hq).1; omega) (by omega) _ _ ((hb.cell (p := ⟨wr.heap.size, 0, none⟩) HN.out.2).trans HN.out.1)
            generalize hW6 : wr.alloc (.cells #[.string p.1, .string p.2] 31) = W6 at b6 HP6 HB6 HB7 HN HSY ⊢
            clear hW6
            go_wp2_with fail
            refine (containsP_any 30 _ (fun q => sameL p.1.data.toList q.1.data.toList) (c.x.params.take j) _ j _ c.b c.off (by omega) W6 HP6.out HSY.out (fun _ _ => rfl)).mono ?_
            rintro e w7 ⟨rfl, hb7⟩
            have HB8 : Hid (Below W4.heap.size W4 w7 ∧ Below w.heap.size w w7) := ⟨HB6.out.trans (hb7.mono HB6.out.size), HB7.out.trans (hb7.mono HB7.out.size)⟩
            clear hb7
            cases ht : (c.x.params.take j).any (fun q => sameL p.1.data.toList q.1.data.toList)
            · have HT : Hid (toldL (c.x.params.take j) p.1 = false) := by
                show _ = _
                rw [← ht]
                unfold toldL
                congr 1
                funext q
                exact same_comm _ _
              go_wp2
              go_roundw
              case rel => exact ⟨j + 1, by omega, by go_num, ⟨inK_step HJ.out.1 HPJ.out (by omega) HIP.out HT.out, HB8.out.1⟩⟩
              case measure => simp [intOf]; omega
            · go_wp2
              go_ret
              exact ⟨far_no _ _, HB8.out.2⟩
          · have hjL : ¬ (j : Int) < (c.len : Int) := by omega
            have HF : Hid (FairC c.x) := fair_of (by omega) (by unfold ChV.len at h16; omega) HI.out (.inl h0) (by
              have e0 : j = c.x.params.length := by unfold ChV.len at hj hjl; omega
              rw [← e0]
              exact HJ.out.1)
            have HB5 : Hid (Below w.heap.size w wr) := HB1.out.trans (HJ.out.2.mono HB1.out.size)
            go_wp2
            go_roundw
            case rel => exact ⟨k + 1, by omega, by go_num, ⟨fair_all HK.out.1 HC.out HF.out, HB5.out⟩⟩
            case measure => simp [intOf]; omega
      · have he : c.x.token.toList.isEmpty = false := mt_no h0
        by_cases hp0 : (0 : Int) < (c.len : Int)
        · go_wp2
          go_ret
          exact ⟨far_no _ _, HB1.out⟩
        · go_wp2_with fail
          refine (trimAll_any c.x.token (by omega) _).mono ?_
          rintro e w3 ⟨t, rfl, HT, hb3⟩
          have b3 : w3.cell? ⟨wr.heap.size, 2, none⟩ = some (.slice ca c.len c.cap) := (hb3.cell (p := ⟨wr.heap.size, 2, none⟩) (by show wr.heap.size < _; omega)).trans b2
          have HB3 : Hid (Below w.heap.size w w3) := HB1.out.trans (hb3.mono HB1.out.size)
          by_cases ht0 : t.size = 0
          · have he2 : t.toList.isEmpty = true := mt_yes ht0
            have HF : Hid (FairC c.x) := fair_of (by omega) (by unfold ChV.len at h16; omega) HI.out (.inr ⟨List.eq_nil_of_length_eq_zero (by unfold ChV.len at hp0; omega), HT.out ht0⟩) (by
              have e0 : c.x.params = [] := List.eq_nil_of_length_eq_zero (by unfold ChV.len at hp0; omega)
              rw [e0]
              exact ⟨fun p hp => (by cases hp), trivial⟩)
            clear hb3
            go_wp2
            refine wp_loop_rounds 1 ?_
            rw [rounds_succ]
            go_wp2
            go_roundw
            case rel => exact ⟨k + 1, by omega, by go_num, ⟨fair_all HK.out.1 HC.out HF.out, HB3.out⟩⟩
            case measure => simp [intOf]; omega
          · have he2 : t.toList.isEmpty = false := mt_no ht0
            clear hb3
            go_wp2
            go_ret
            exact ⟨far_no _ _, HB3.out⟩
    · have HA : Hid (∀ c ∈ cs, FairC c.x) := by
        have := HK.out.1
        rw [List.take_of_length_le (by omega)] at this
        exact this
      go_wp2
      go_ret
      exact ⟨⟨_, rfl, fun _ => ⟨by omega, HA.out⟩⟩, HK.out.2⟩
end Go.Proofs.YtooaiamfbmjmnaaGreatDoor
