/- Which headers must be asked for, by the document's own answer. -/
import Derived.Test.YtbhnaekkjpcafaaDoorAskd8
import Derived.Test.YtbhnaekkjpcafaaDoorRSo8
import Derived.Test.YtbhnaekkjpcafaaDoorRPln8
namespace Go.Proofs.YtbhnaekkjpcafaaDoor
open Go.RowKit Go.Shelf

/-- The names that the document asks for. -/
def refNames (ps : List Par) (big : Bool) : List ByteArray := (ps.filter fun p => big || !plain8 p).map lowN
theorem refNames_next (ps : List Par) (k : Nat) (p : Par) (big : Bool) (h : ps[k]? = some p) : refNames (ps.take (k + 1)) big = if (big || !plain8 p) = true then refNames (ps.take k) big ++ [lowN p] else refNames (ps.take k) big := by
  unfold refNames
  rw [take_next ps k p h, List.filter_append, List.map_append]
  cases h2 : (big || !plain8 p)
  · rw [List.filter_cons_of_neg (by simp [h2])]; simp
  · rw [List.filter_cons_of_pos (by simp [h2])]; simp
theorem refNames_le (ps : List Par) (big : Bool) : (refNames ps big).length ≤ ps.length := by
  unfold refNames
  rw [List.length_map]
  exact List.length_filter_le _ _
theorem names_perm (ps : List Par) : (tx (refNames ps (decide (1024 < together ps)))).Perm (tx (askedNames ps)) := by
  unfold tx
  apply List.Perm.map
  unfold askedNames refNames
  by_cases h : 1024 < together ps
  · rw [if_pos h, decide_eq_true h]
    unfold notPlain arePlain
    rw [← List.map_append]
    apply List.Perm.map
    have e : (ps.filter fun p => true || !plain8 p) = ps := by
      rw [List.filter_eq_self.2]
      intro a _
      simp
    rw [e]
    have := List.filter_append_perm (fun p => !plain8 p) ps
    simp only [Bool.not_not] at this
    exact this.symm
  · rw [if_neg h, decide_eq_false h]
    unfold notPlain
    simp only [Bool.false_or]
    exact List.Perm.refl _
theorem asked_ref (ps : List Par) : (Lib.compact (sortL (tx (refNames ps (decide (1024 < together ps)))))).map bs = askedL ps := by
  unfold askedL
  rw [sortL_of_perm (names_perm ps)]
theorem tog_next (ps : List Par) (k : Nat) (p : Par) (h : ps[k]? = some p) : together (ps.take (k + 1)) = if plain8 p = true then together (ps.take k) + p.2.size else together (ps.take k) := by
  cases hp : plain8 p
  · rw [if_neg (by simp)]; exact (notPlain_no ps k p h hp).2.2
  · rw [if_pos rfl]; exact (notPlain_yes ps k p h hp).2.2
set_option maxRecDepth 100000 in
set_option maxHeartbeats 8000000 in
theorem refAsked8_any (ps : List Par) (hps : Small8 ps) (a0 : Option Addr) (len cap b off : Nat) (hlen : len ≤ 60) (w : World) (hx : Pars w a0 len b off ps) :
    Calls Tryd.prog 17 #[.slice a0 len cap] w fun e w' => (∃ v, e = .returned v ∧ OwnS w' w.heap.size v (askedL ps)) ∧ Below w.heap.size w w' := by
  have HX : Hid (Pars w a0 len b off ps) := hx
  have HP : Hid (Small8 ps) := hps
  have HL : Hid (ps.length = len) := hx.len_eq
  clear hx hps
  go_enter Tryd.func17, Tryd.ntmps17
  go_wp2
  go_loopw [3, 11] (fun s3 i wr => ∃ (k tg : Nat), k ≤ len ∧ s3 = .int .i64 tg ∧ i = .int .i64 k ∧ tg ≤ 10000 ∧ Hid (tg = together (ps.take k)) ∧ Hid (Below w.heap.size w wr)) (fun _ i _ => len - (intOf i).toNat)
  case atStart => exact ⟨0, 0, Nat.zero_le _, rfl, rfl, by omega, rfl, Below.refl _ _⟩
  case round =>
    obtain ⟨k, tg, hk, rfl, rfl, htg, HT, HB⟩ := hrel
    by_cases hlt : k < len
    · have hltz : (k : Int) < (len : Int) := by omega
      obtain ⟨p, hp⟩ : ∃ p, ps[k]? = some p := ⟨ps[k]'(by have := HL.out; omega), List.getElem?_eq_getElem _⟩
      obtain ⟨pn, pv⟩ := p
      have HPK : Hid (ps[k]? = some (pn, pv)) := hp
      have hpz := HP.out _ (List.mem_of_getElem? hp)
      have hpz1 : pn.size ≤ 3000 := hpz.1
      have hpz2 : pv.size ≤ 3000 := hpz.2
      obtain ⟨ha0, _⟩ := HX.out.lies (by omega)
      subst ha0
      have hXr := HX.out.below HB.out
      have c1 : wr.cell? ⟨b, off + k * 2, none⟩ = some (.string pn) := hXr.one k _ hp
      have c2 : wr.cell? ⟨b, off + k * 2 + 1, none⟩ = some (.string pv) := hXr.two k _ hp
      have HW0 : Hid (∀ w', Below (wr.alloc (.cells #[.string pn, .string pv] 25)).heap.size (wr.alloc (.cells #[.string pn, .string pv] 25)) w' → Below w.heap.size w w' ∧ w'.heap[wr.heap.size]? = some (.cells #[.string pn, .string pv] 25 (0, 0))) := fun w' hb => by
        have hb0 : Below wr.heap.size wr (wr.alloc (.cells #[.string pn, .string pv] 25)) := (Below.refl _ _).alloc (Nat.le_refl _) _
        have hb1 : Below wr.heap.size wr w' := hb0.trans (hb.mono (by simp))
        exact ⟨HB.out.trans (hb1.mono HB.out.size), (hb.block _ (by simp)).trans (heap_alloc_new wr _)⟩
      obtain ⟨q, HQ⟩ : ∃ q, Hid (plainL pn.data.toList pv.data.toList = q) := ⟨_, rfl⟩
      have HS : Hid (together (ps.take (k + 1)) = if q = true then together (ps.take k) + pv.size else together (ps.take k)) := by
        rw [← HQ.out]; exact tog_next ps k _ HPK.out
      have HTL : Hid (together (ps.take (k + 1)) ≤ 10000) := by
        have h1 := together_le (ps.take (k + 1))
        have h2 : (ps.take (k + 1)).length ≤ k + 1 := List.length_take_le _ _
        show _ ≤ _
        omega
      clear hp hpz hXr
      go_wp2_with fail
      refine (refPlain_any pn pv (by omega) (by omega) _).mono ?_
      rintro e w2 ⟨rfl, hb2⟩
      rw [HQ.out]
      have HW2 := HW0.out _ hb2
      have HB2 : Hid (Below w.heap.size w w2) := HW2.1
      obtain ⟨_, x1, _⟩ := two_at HW2.2
      clear hb2 HW2 HW0 c1 c2
      cases q
      · go_wp2
        go_roundw
        case rel => exact ⟨k + 1, tg, by omega, rfl, by go_num, htg, by have h := HS.out; simp only [Bool.false_eq_true, if_false] at h; rw [h]; exact HT, HB2⟩
        case measure => simp [intOf]; omega
      · have HS1 : Hid (together (ps.take (k + 1)) = together (ps.take k) + pv.size) := by have h := HS.out; show _ = _; simpa using h
        have hts : tg + pv.size ≤ 10000 := by
          have h1 := HTL.out
          rw [HS1.out] at h1
          have h2 : tg = together (ps.take k) := HT
          omega
        go_wp2
        go_roundw
        case rel => exact ⟨k + 1, tg + pv.size, by omega, by go_num, by go_num, hts, by rw [HS1.out]; show tg + pv.size = _ + pv.size; rw [HT.out], HB2⟩
        case measure => simp [intOf]; omega
    · have hltz : ¬ (k : Int) < (len : Int) := by omega
      have HTG : Hid (tg = together ps) := by
        have h2 : tg = together (ps.take k) := HT
        rw [List.take_of_length_le (by have := HL.out; omega)] at h2
        exact h2
      obtain ⟨big, HBG⟩ : ∃ big, Hid (decide (1024 < together ps) = big) := ⟨_, rfl⟩
      clear HT
      go_wp2
      go_loopw [6, 25] (fun s6 i wq => ∃ (j : Nat) (u : Value), j ≤ len ∧ u = s6 ∧ i = .int .i64 j ∧ Hid (OwnS wq w.heap.size u (refNames (ps.take j) big) ∧ Below w.heap.size w wq)) (fun _ i _ => len - (intOf i).toNat)
      case atStart => exact ⟨0, _, Nat.zero_le _, rfl, rfl, by unfold refNames; exact ownS_nil _ _, HB.out⟩
      case round =>
        obtain ⟨j, u, hj, rfl, rfl, HI⟩ := hrel
        by_cases hjl : j < len
        · have hjz : (j : Int) < (len : Int) := by omega
          obtain ⟨p, hp⟩ : ∃ p, ps[j]? = some p := ⟨ps[j]'(by have := HL.out; omega), List.getElem?_eq_getElem _⟩
          obtain ⟨pn, pv⟩ := p
          have HPK : Hid (ps[j]? = some (pn, pv)) := hp
          have hpz := HP.out _ (List.mem_of_getElem? hp)
          have hpz1 : pn.size ≤ 3000 := hpz.1
          have hpz2 : pv.size ≤ 3000 := hpz.2
          obtain ⟨ha0, _⟩ := HX.out.lies (by omega)
          subst ha0
          have hXr := HX.out.below HI.out.2
          have c1 : wr.cell? ⟨b, off + j * 2, none⟩ = some (.string pn) := hXr.one j _ hp
          have c2 : wr.cell? ⟨b, off + j * 2 + 1, none⟩ = some (.string pv) := hXr.two j _ hp
          have HW0 : Hid (∀ w', Below (wr.alloc (.cells #[.string pn, .string pv] 25)).heap.size (wr.alloc (.cells #[.string pn, .string pv] 25)) w' → OwnS w' w.heap.size u (refNames (ps.take j) big) ∧ Below w.heap.size w w' ∧ w'.heap[wr.heap.size]? = some (.cells #[.string pn, .string pv] 25 (0, 0))) := fun w' hb => by
            have hb0 : Below wr.heap.size wr (wr.alloc (.cells #[.string pn, .string pv] 25)) := (Below.refl _ _).alloc (Nat.le_refl _) _
            have hb1 : Below wr.heap.size wr w' := hb0.trans (hb.mono (by simp))
            exact ⟨HI.out.1.below hb1, HI.out.2.trans (hb1.mono HI.out.2.size), (hb.block _ (by simp)).trans (heap_alloc_new wr _)⟩
          obtain ⟨q, HQ⟩ : ∃ q, Hid (plainL pn.data.toList pv.data.toList = q) := ⟨_, rfl⟩
          obtain ⟨x, HN⟩ : ∃ x : ByteArray, Hid (bs (pn.data.toList.map low) = x) := ⟨_, rfl⟩
          have HNX : Hid (lowN (pn, pv) = x) := HN.out
          have HS : Hid (refNames (ps.take (j + 1)) big = if (big || !q) = true then refNames (ps.take j) big ++ [x] else refNames (ps.take j) big) := by
            show _ = _
            rw [refNames_next ps j _ big HPK.out, HNX.out, ← HQ.out]
            rfl
          obtain ⟨nu, HNU⟩ : ∃ m, Hid ((refNames (ps.take j) big).length = m) := ⟨_, rfl⟩
          have hnu : nu ≤ 60 := by
            have h1 := refNames_le (ps.take j) big
            have h2 : (ps.take j).length ≤ j := List.length_take_le _ _
            have h3 := HNU.out
            omega
          clear hp hpz hXr
          go_upto_region 12 with fail
          generalize hWA : wr.alloc (.cells #[.string pn, .string pv] 25) = WA at HW0 ⊢
          have HWA : Hid (WA = wr.alloc (.cells #[.string pn, .string pv] 25)) := hWA.symm
          clear hWA c1 c2
          go_cut [35] (fun s35 wc => s35 = .bool (big || !q) ∧ Hid (Below WA.heap.size WA wc))
          case first =>
            cases big
            · have hbz : ¬ (1024 : Int) < (tg : Int) := by
                have h1 := of_decide_eq_false HBG.out
                have h2 := HTG.out
                omega
              obtain ⟨x0, x1, _⟩ := two_at (HW0.out _ (Below.refl _ _)).2.2
              go_wp2_with fail
              refine (refPlain_any pn pv (by omega) (by omega) _).mono ?_
              rintro e w2 ⟨rfl, hb2⟩
              rw [HQ.out]
              go_wp2
              go_meet
              exact ⟨rfl, hb2⟩
            · have hbz : (1024 : Int) < (tg : Int) := by
                have h1 := of_decide_eq_true HBG.out
                have h2 := HTG.out
                omega
              go_wp2
              go_meet
              exact ⟨rfl, Below.refl _ _⟩
          case rest =>
          obtain ⟨rfl, HC⟩ := hcut
          obtain ⟨z, HZZ⟩ : ∃ z, Hid ((big || !q) = z) := ⟨_, rfl⟩
          rw [HZZ.out] at HS ⊢
          have HWC := HW0.out _ HC.out
          obtain ⟨x0, x1, _⟩ := two_at HWC.2.2
          have HW2 : Hid (OwnS wc w.heap.size u (refNames (ps.take j) big) ∧ Below w.heap.size w wc) := ⟨HWC.1, HWC.2.1⟩
          clear HWC HW0 HWA
          cases z
          · have HS0 : Hid (refNames (ps.take (j + 1)) big = refNames (ps.take j) big) := by have h := HS.out; show _ = _; simpa using h
            go_wp2
            go_roundw
            case rel => exact ⟨j + 1, _, by omega, rfl, by go_num, by rw [HS0.out]; exact HW2⟩
            case measure => simp [intOf]; omega
          · have HS1 : Hid (refNames (ps.take (j + 1)) big = refNames (ps.take j) big ++ [x]) := by have h := HS.out; show _ = _; simpa using h
            go_wp2_with fail
            refine (refLower_any pn _ (by omega)).mono ?_
            rintro e w3 ⟨rfl, hb3⟩
            rw [HN.out]
            have HW3 : Hid (OwnS w3 w.heap.size u (refNames (ps.take j) big) ∧ Below w.heap.size w w3) := ⟨HW2.out.1.below hb3, HW2.out.2.trans (hb3.mono HW2.out.2.size)⟩
            clear hb3 x0 x1 HW2
            go_wp2_with (at_builtin; refine wp_apps rfl _ _ rfl w.heap.size w3 u _ nu rfl HW3.out.1 HNU.out (by omega) HW3.out.2.size x rfl ?_; intro g4 cap4 w4 hown4 hg4 hlt4; have HW4 : Hid (OwnS w4 w.heap.size (.slice (some ⟨g4, 0, none⟩) (nu + 1) cap4) (refNames (ps.take j) big ++ [x]) ∧ Below w.heap.size w w4) := ⟨hown4, (HW3.out.2.alloc HW3.out.2.size _).grown hg4 (by have := HW3.out.2.size; simp; omega) (fun i hi => (HW3.out.1.lt i hi).1)⟩; clear hown4 hg4 hlt4)
            go_roundw
            case rel => exact ⟨j + 1, _, by omega, rfl, by go_num, by rw [HS1.out]; exact HW4⟩
            case measure => simp [intOf]; omega
        · have hjz : ¬ (j : Int) < (len : Int) := by omega
          have HE : Hid (OwnS wr w.heap.size u (refNames ps big) ∧ Below w.heap.size w wr) := by
            have h := HI.out
            rw [List.take_of_length_le (by have := HL.out; omega)] at h
            exact h
          have hlr : (refNames ps big).length ≤ 1000 := by
            have h1 := refNames_le ps big
            have h2 := HL.out
            omega
          go_wp2_with fail
          refine (sortedR_any w.heap.size u _ hlr _ HE.out.2.size HE.out.1).mono ?_
          rintro e w5 ⟨⟨v, rfl, hown⟩, hb5⟩
          go_wp2
          go_ret
          refine ⟨⟨v, rfl, ?_⟩, HE.out.2.trans hb5⟩
          rw [← HBG.out, asked_ref] at hown
          exact hown
end Go.Proofs.YtbhnaekkjpcafaaDoor
