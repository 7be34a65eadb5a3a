/- Challenges that are written are read as they are, over lists of bytes. -/
import Derived.Test.YtooaiamfbmjmnaaGreatDoorAk
import Derived.Test.YtooaiamfbmjmnaaGreatDoorAkT
namespace Go.Proofs.YtooaiamfbmjmnaaGreatDoor

theorem kinds : ∀ c : UInt8, (tokB c = true → c ≠ 61 ∧ c ≠ 44 ∧ c ≠ 34 ∧ blankB c = false ∧ gapB c = false) ∧ (tkB c = true → c ≠ 61 ∧ c ≠ 44 ∧ blankB c = false) := by
  intro c
  have : ∀ n : Fin 256, (tokB (UInt8.ofNat n.1) = true → UInt8.ofNat n.1 ≠ 61 ∧ UInt8.ofNat n.1 ≠ 44 ∧ UInt8.ofNat n.1 ≠ 34 ∧ blankB (UInt8.ofNat n.1) = false ∧ gapB (UInt8.ofNat n.1) = false) ∧ (tkB (UInt8.ofNat n.1) = true → UInt8.ofNat n.1 ≠ 61 ∧ UInt8.ofNat n.1 ≠ 44 ∧ blankB (UInt8.ofNat n.1) = false) := by decide +kernel
  have h := this ⟨c.toNat, c.toNat_lt⟩
  simpa using h
/-- Nothing, or a comma ahead. -/
def Ends (m : List UInt8) : Prop := m = [] ∨ ∃ t, m = 44 :: t
theorem tw_end (f : UInt8 → Bool) (hf : f 44 = false) {m : List UInt8} (h : Ends m) : m.takeWhile f = [] ∧ m.dropWhile f = m := by
  rcases h with rfl | ⟨t, rfl⟩
  · exact ⟨rfl, rfl⟩
  · exact ⟨by rw [List.takeWhile_cons, hf]; rfl, by rw [List.dropWhile_cons, hf]; rfl⟩
theorem stops_end {m : List UInt8} (h : Ends m) : stopsL m = true := by
  rcases h with rfl | ⟨t, rfl⟩
  · rfl
  · rfl
theorem tw_app (f : UInt8 → Bool) {a m : List UInt8} (ha : a.all f = true) (hm : m.takeWhile f = []) : (a ++ m).takeWhile f = a := by
  rw [List.takeWhile_append_of_pos (by simpa [List.all_eq_true] using ha), hm, List.append_nil]
theorem dw_app (f : UInt8 → Bool) {a m : List UInt8} (ha : a.all f = true) (hm : m.dropWhile f = m) : (a ++ m).dropWhile f = m := by
  rw [List.dropWhile_append_of_pos (by simpa [List.all_eq_true] using ha), hm]
theorem dw_first (f : UInt8 → Bool) {c : UInt8} (t : List UInt8) (h : f c = false) : (c :: t).dropWhile f = c :: t ∧ (c :: t).takeWhile f = [] := by
  rw [List.dropWhile_cons, List.takeWhile_cons, h]
  exact ⟨rfl, rfl⟩
theorem isL_cons {l : List UInt8} (h : isL l = true) : ∃ c t, l = c :: t ∧ tokB c = true ∧ l.all tokB = true := by
  unfold isL at h
  rw [Bool.and_eq_true] at h
  cases l with
  | nil => cases h.1
  | cons c t =>
    refine ⟨c, t, rfl, ?_, h.2⟩
    have := h.2
    rw [List.all_cons, Bool.and_eq_true] at this
    exact this.1
/-- A parameter that is not like those ahead. -/
def Unlike : List Par → List Par → Prop
  | _, [] => True
  | acc, p :: r => toldL acc p.1 = false ∧ Unlike (acc ++ [p]) r
/-- A parameter's text, without the blank. -/
def parN (p : Par) (v : List UInt8) : List UInt8 := p.1.data.toList ++ 61 :: v
theorem parT_is {p : Par} {a : List UInt8} (h : parT p = some a) : ∃ v, valueO p.2.data.toList = some v ∧ a = 32 :: parN p v := by
  unfold parT at h
  obtain ⟨v, hv, rfl⟩ := Option.map_eq_some_iff.1 h
  exact ⟨v, hv, rfl⟩
theorem value_first {s v : List UInt8} (h : valueO s = some v) : ∃ c t, v = c :: t ∧ (tokB c = true ∨ c = 34) := by
  unfold valueO at h
  split at h
  · rename_i hs
    cases h
    obtain ⟨c, t, rfl, hc, _⟩ := isL_cons hs
    exact ⟨c, t, rfl, .inl hc⟩
  · unfold quoteO at h
    split at h
    · cases h
      exact ⟨34, _, rfl, .inr rfl⟩
    · cases h
theorem first_kinds {c : UInt8} (h : tokB c = true ∨ c = 34) : c ≠ 61 ∧ c ≠ 44 ∧ blankB c = false ∧ eqB c = false := by
  have : c ≠ 61 ∧ c ≠ 44 ∧ blankB c = false := by
    rcases h with h | rfl
    · exact ⟨((kinds c).1 h).1, ((kinds c).1 h).2.1, ((kinds c).1 h).2.2.2.1⟩
    · decide
  exact ⟨this.1, this.2.1, this.2.2, beq_eq_false_iff_ne.2 this.1⟩
theorem name_is {p : Par} {v R : List UInt8} (hn : isL p.1.data.toList = true) : nameL (parN p v ++ R) = some (p.1, v ++ R) := by
  obtain ⟨c, t, e, hc, ha⟩ := isL_cons hn
  unfold nameL parN
  have h1 : (p.1.data.toList ++ 61 :: v ++ R).takeWhile tokB = p.1.data.toList := by
    rw [List.append_assoc]
    exact tw_app tokB ha (dw_first tokB _ (by decide)).2
  have h2 : (p.1.data.toList ++ 61 :: v ++ R).dropWhile tokB = 61 :: (v ++ R) := by
    rw [List.append_assoc]
    exact dw_app tokB ha (dw_first tokB _ (by decide)).1
  rw [h1, h2, (dw_first blankB _ (by decide)).1, if_neg (by rw [e]; simp)]
  show some (bs p.1.data.toList, v ++ R) = _
  rw [bs_self]
theorem value_is {p : Par} {v R : List UInt8} (hv : valueO p.2.data.toList = some v) (hR : Ends R) : valueL ((v ++ R).dropWhile blankB) = some (p.2, R) := by
  obtain ⟨c, t, e, hc⟩ := value_first hv
  have hb : (v ++ R).dropWhile blankB = v ++ R := by
    rw [e]
    exact (dw_first blankB _ (first_kinds hc).2.2.1).1
  rw [hb]
  have hm : ∀ c t, R = c :: t → tokB c = false := by
    intro c t h
    rcases hR with rfl | ⟨t', rfl⟩
    · cases h
    · cases h; decide
  rcases value_word _ v R hm hv with ⟨hs, rfl, htw⟩ | ⟨hs, htw, hq⟩
  · unfold valueL
    obtain ⟨c', t', e', _, ha⟩ := isL_cons hs
    rw [htw, if_neg (by rw [e']; simp), bs_self]
    congr 2
    exact dw_app tokB ha (tw_end tokB (by decide) hR).2
  · unfold valueL
    rw [if_pos htw, hq]
    show some (bs p.2.data.toList, (v ++ R).drop v.length) = _
    rw [bs_self, List.drop_left]
/-- What stands between two parameters. -/
theorem parsF_is : ∀ {r : List Par} {a : List UInt8}, parsT false r = some a → (r = [] ∧ a = []) ∨ ∃ p r' v b, r = p :: r' ∧ valueO p.2.data.toList = some v ∧ parsT false r' = some b ∧ a = 44 :: 32 :: (parN p v ++ b)
  | [], a, h => by cases h; exact .inl ⟨rfl, rfl⟩
  | p :: r', a, h => by
    rw [parsT] at h
    rcases hp : parT p with _ | q
    · rw [hp] at h; cases h
    · rw [hp] at h
      obtain ⟨b, hb, rfl⟩ := Option.map_eq_some_iff.1 h
      obtain ⟨v, hv, rfl⟩ := parT_is hp
      exact .inr ⟨p, r', v, b, rfl, hv, hb, by simp [sepP]⟩
theorem ends_app {a m : List UInt8} {r : List Par} (h : parsT false r = some a) (hm : Ends m) : Ends (a ++ m) := by
  rcases parsF_is h with ⟨_, rfl⟩ | ⟨p, r', v, b, _, _, _, rfl⟩
  · exact hm
  · exact .inr ⟨_, rfl⟩
theorem params_print : ∀ (r : List Par) (p : Par) (acc : List Par) (f : Nat) (v b m : List UInt8), (∀ q ∈ p :: r, isL q.1.data.toList = true) → Unlike acc (p :: r) → acc.length + (p :: r).length ≤ 16 →
    valueO p.2.data.toList = some v → parsT false r = some b → Ends m → nameL (m.dropWhile gapB) = none → (parN p v ++ b ++ m).length < f →
    paramsL f acc (parN p v ++ b ++ m) = .ok (acc ++ p :: r, m.dropWhile gapB)
  | r, p, acc, 0, v, b, m, _, _, _, _, _, _, _, hf => absurd hf (Nat.not_lt_zero _)
  | r, p, acc, f + 1, v, b, m, hi, hu, hl, hv, hb, hm, hnm, hf => by
    have hE := ends_app hb hm
    have hpar : paramL acc (parN p v ++ b ++ m) = .ok (p, b ++ m) := by
      unfold paramL
      rw [List.append_assoc, name_is (hi p (by simp))]
      simp only [value_is hv hE]
      rw [hu.1, if_neg (by simp), if_neg (by simp at hl; omega)]
    rw [paramsL, hpar]
    simp only [(tw_end blankB (by decide) hE).2, stops_end hE, if_true]
    rcases parsF_is hb with ⟨rfl, rfl⟩ | ⟨q, r', v', b', rfl, hv', hb', rfl⟩
    · rw [List.nil_append, hnm]
      rfl
    · obtain ⟨c, t, e, hc, _⟩ := isL_cons (hi q (by simp))
      have hg : (44 :: 32 :: (parN q v' ++ b') ++ m).dropWhile gapB = parN q v' ++ b' ++ m := by
        rw [List.cons_append, List.cons_append, List.dropWhile_cons_of_pos (by decide), List.dropWhile_cons_of_pos (by decide)]
        unfold parN
        rw [e]
        exact (dw_first gapB _ ((kinds c).1 hc).2.2.2.2).1
      rw [hg, List.append_assoc, name_is (hi q (by simp))]
      simp only [Option.isSome_some, if_true]
      rw [← List.append_assoc, params_print r' q (acc ++ [p]) f v' b' m (fun x hx => hi x (by simp at hx ⊢; exact .inr hx)) hu.2 (by simp at hl ⊢; omega) hv' hb' hm hnm (by simp [parN] at hf ⊢; omega)]
      simp
theorem token_none {p : Par} {v R : List UInt8} (hn : isL p.1.data.toList = true) (hv : valueO p.2.data.toList = some v) : tokenL (parN p v ++ R) = none := by
  obtain ⟨c, t, e, hc⟩ := value_first hv
  obtain ⟨k1, k2, k3, k4⟩ := first_kinds hc
  unfold tokenL
  rw [if_neg]
  rintro ⟨_, hs⟩
  unfold parN at hs
  by_cases ha : p.1.data.toList.all tkB = true
  · rw [List.append_assoc, List.cons_append, dw_app tkB ha (dw_first tkB _ (by decide)).1, List.dropWhile_cons_of_pos (by decide), e, List.cons_append, (dw_first eqB _ k4).1, (dw_first blankB _ k3).1] at hs
    unfold stopsL at hs
    exact k2 (by simpa using hs)
  · obtain ⟨c', t', e', _, hall⟩ := isL_cons hn
    have hdw : ∃ d u, p.1.data.toList.dropWhile tkB = d :: u ∧ d ∈ p.1.data.toList := by
      cases h : p.1.data.toList.dropWhile tkB with
      | nil => exact absurd ((dw_nil _ _).1 h) ha
      | cons d u => exact ⟨d, u, rfl, (List.dropWhile_sublist _).subset (by rw [h]; simp)⟩
    obtain ⟨d, u, hd, hmem⟩ := hdw
    have hdt : tokB d = true := List.all_eq_true.1 hall d hmem
    obtain ⟨j1, j2, _, j3, _⟩ := (kinds d).1 hdt
    have hfull : (p.1.data.toList ++ 61 :: v ++ R).dropWhile tkB = d :: (u ++ 61 :: v ++ R) := by
      rw [List.append_assoc, List.dropWhile_append, hd]
      simp
    rw [hfull, (dw_first eqB _ (beq_eq_false_iff_ne.2 j1)).1, (dw_first blankB _ j3).1] at hs
    unfold stopsL at hs
    exact j2 (by simpa using hs)
/-- A Token as it is read. -/
def TokOk (t : List UInt8) : Prop := ∃ b e, t = b ++ e ∧ b ≠ [] ∧ b.all tkB = true ∧ e.all eqB = true
/-- A challenge that can be told so. -/
def Good (x : Chal) : Prop := isL x.scheme.data.toList = true ∧ (x.token.size = 0 ∨ TokOk x.token.data.toList ∧ x.params = []) ∧ (∀ q ∈ x.params, isL q.1.data.toList = true) ∧ Unlike [] x.params ∧ x.params.length ≤ 16
theorem empty_of {s : ByteArray} (h : s.size = 0) : s = ⟨#[]⟩ := ByteArray.ext (Array.eq_empty_of_size_eq_zero h)
theorem tokOk_first {t : List UInt8} (h : TokOk t) : ∃ c u, t = c :: u ∧ tkB c = true := by
  obtain ⟨b, e, rfl, hb, ha, _⟩ := h
  cases b with
  | nil => exact absurd rfl hb
  | cons c u =>
    rw [List.all_cons, Bool.and_eq_true] at ha
    exact ⟨c, u ++ e, rfl, ha.1⟩
theorem token_is {t m : List UInt8} (h : TokOk t) (hm : Ends m) : tokenL (t ++ m) = some (bs t, m) := by
  obtain ⟨b, e, rfl, hb, ha, he⟩ := h
  have hem : (e ++ m).dropWhile tkB = e ++ m := by
    cases e with
    | nil => exact (tw_end tkB (by decide) hm).2
    | cons c u =>
      rw [List.all_cons, Bool.and_eq_true] at he
      have hc : c = 61 := by simpa [eqB] using he.1
      subst hc
      exact (dw_first tkB _ (by decide)).1
  have h1 : (b ++ e ++ m).dropWhile tkB = e ++ m := by rw [List.append_assoc]; exact dw_app tkB ha hem
  have h2 : (e ++ m).dropWhile eqB = m := dw_app eqB he (tw_end eqB (by decide) hm).2
  unfold tokenL
  rw [h1, h2, (tw_end blankB (by decide) hm).2, if_pos ⟨by have := List.length_pos_iff.2 hb; simp; omega, stops_end hm⟩]
  congr 3
  rw [List.length_append, Nat.add_sub_cancel, List.take_left]
theorem chal_print {x : Chal} {t m : List UInt8} (hg : Good x) (ht : chalT x = some t) (ahead : Nat) (ha : ahead < 8) (hm : Ends m) (hnm : nameL (m.dropWhile gapB) = none) : ∃ u, chalL ahead (t ++ m) = .ok (x, u) ∧ u.dropWhile gapB = m.dropWhile gapB := by
  obtain ⟨h1, h2, h3, h4, h5⟩ := hg
  obtain ⟨c, s', es, hc, hall⟩ := isL_cons h1
  unfold chalT at ht
  obtain ⟨b, hb, rfl⟩ := Option.map_eq_some_iff.1 ht
  have hne : x.scheme.data.toList ≠ [] := by rw [es]; simp
  rcases h2 with h2 | ⟨h2, hp⟩
  · have htk := empty_of h2
    have htt : tokT x.token = [] := by unfold tokT; rw [if_pos h2]
    rw [htt, List.append_nil]
    rcases hps : x.params with _ | ⟨p, r⟩
    · rw [hps] at hb
      cases hb
      rw [List.append_nil]
      refine ⟨m, ?_, rfl⟩
      unfold chalL
      rw [tw_app tokB hall (tw_end tokB (by decide) hm).1, dw_app tokB hall (tw_end tokB (by decide) hm).2, (tw_end blankB (by decide) hm).2, stops_end hm, if_neg hne, if_neg (by omega), if_pos rfl, bs_self]
      rcases x with ⟨a1, a2, a3⟩
      simp only at hps htk
      rw [hps, htk]
    · rw [hps] at hb h3 h4 h5
      rw [parsT] at hb
      rcases hpt : parT p with _ | q
      · rw [hpt] at hb; cases hb
      · rw [hpt] at hb
        obtain ⟨b', hb', rfl⟩ := Option.map_eq_some_iff.1 hb
        obtain ⟨v, hv, rfl⟩ := parT_is hpt
        have e1 : x.scheme.data.toList ++ (sepP true ++ 32 :: parN p v ++ b') ++ m = x.scheme.data.toList ++ 32 :: (parN p v ++ b' ++ m) := by simp [sepP]
        rw [e1]
        obtain ⟨d, u', ed, hd, _⟩ := isL_cons (h3 p (by simp))
        have hb1 : (32 :: (parN p v ++ b' ++ m)).dropWhile blankB = parN p v ++ b' ++ m := by
          rw [List.dropWhile_cons_of_pos (by decide)]
          unfold parN
          rw [ed]
          exact (dw_first blankB _ ((kinds d).1 hd).2.2.2.1).1
        have hst : stopsL (parN p v ++ b' ++ m) = false := by
          unfold parN
          rw [ed]
          exact beq_eq_false_iff_ne.2 ((kinds d).1 hd).2.1
        refine ⟨m.dropWhile gapB, ?_, ?_⟩
        · unfold chalL
          rw [tw_app tokB hall (dw_first tokB _ (by decide)).2, dw_app tokB hall (dw_first tokB _ (by decide)).1, hb1, hst, if_neg hne, if_neg (by omega), if_neg (by simp), if_neg (by unfold runL; rw [List.takeWhile_cons_of_pos (by decide)]; simp), bs_self]
          unfold insideL
          rw [List.append_assoc, token_none (h3 p (by simp)) hv, ← List.append_assoc]
          simp only []
          rw [params_print r p [] _ v b' m h3 h4 (by simpa using h5) hv hb' hm hnm (by omega)]
          rcases x with ⟨a1, a2, a3⟩
          simp only at hps htk
          rw [hps, htk]
          rfl
        · have : ∀ l : List UInt8, (l.dropWhile gapB).dropWhile gapB = l.dropWhile gapB := fun l => by
            induction l with
            | nil => rfl
            | cons c t ih =>
              by_cases h : gapB c = true
              · rw [List.dropWhile_cons_of_pos h, ih]
              · rw [List.dropWhile_cons_of_neg h, List.dropWhile_cons_of_neg h]
          exact this m
  · rw [hp] at hb
    cases hb
    obtain ⟨d, u', ed, hd⟩ := tokOk_first h2
    have hz : x.token.size ≠ 0 := by
      intro h
      have := empty_of h
      rw [this] at ed
      cases ed
    have htt : tokT x.token = 32 :: x.token.data.toList := by unfold tokT; rw [if_neg hz]
    rw [htt, List.append_nil, List.append_assoc, List.cons_append]
    have hb1 : (32 :: (x.token.data.toList ++ m)).dropWhile blankB = x.token.data.toList ++ m := by
      rw [List.dropWhile_cons_of_pos (by decide), ed]
      exact (dw_first blankB _ ((kinds d).2 hd).2.2).1
    have hst : stopsL (x.token.data.toList ++ m) = false := by
      rw [ed]
      exact beq_eq_false_iff_ne.2 ((kinds d).2 hd).2.1
    refine ⟨m, ?_, rfl⟩
    unfold chalL
    rw [tw_app tokB hall (dw_first tokB _ (by decide)).2, dw_app tokB hall (dw_first tokB _ (by decide)).1, hb1, hst, if_neg hne, if_neg (by omega), if_neg (by simp), if_neg (by unfold runL; rw [List.takeWhile_cons_of_pos (by decide)]; simp), bs_self]
    unfold insideL
    rw [token_is h2 hm]
    simp only []
    rcases x with ⟨a1, a2, a3⟩
    simp only at hp
    rw [hp, bs_self]
theorem head_next {x : Chal} {a T : List UInt8} (hg : Good x) (ha : chalT x = some a) (hT : Ends T) : nameL (a ++ T) = none ∧ (a ++ T).dropWhile gapB = a ++ T ∧ a ≠ [] := by
  obtain ⟨h1, h2, h3, h4, h5⟩ := hg
  obtain ⟨c, s', es, hc, hall⟩ := isL_cons h1
  unfold chalT at ha
  obtain ⟨b, hb, rfl⟩ := Option.map_eq_some_iff.1 ha
  have hrest : ∃ R, x.scheme.data.toList ++ tokT x.token ++ b ++ T = x.scheme.data.toList ++ R ∧ (Ends R ∨ ∃ d u, R = 32 :: d :: u ∧ d ≠ 61 ∧ blankB d = false) := by
    refine ⟨tokT x.token ++ b ++ T, by simp, ?_⟩
    rcases h2 with h2 | ⟨h2, hp⟩
    · have htt : tokT x.token = [] := by unfold tokT; rw [if_pos h2]
      rw [htt, List.nil_append]
      rcases hps : x.params with _ | ⟨p, r⟩
      · rw [hps] at hb
        cases hb
        exact .inl hT
      · rw [hps] at hb h3
        rw [parsT] at hb
        rcases hpt : parT p with _ | q
        · rw [hpt] at hb; cases hb
        · rw [hpt] at hb
          obtain ⟨b', hb', rfl⟩ := Option.map_eq_some_iff.1 hb
          obtain ⟨v, hv, rfl⟩ := parT_is hpt
          obtain ⟨d, u', ed, hd, _⟩ := isL_cons (h3 p (by simp))
          refine .inr ⟨d, u' ++ 61 :: v ++ b' ++ T, ?_, ((kinds d).1 hd).1, ((kinds d).1 hd).2.2.2.1⟩
          unfold parN
          rw [ed]
          simp [sepP]
    · rw [hp] at hb
      cases hb
      obtain ⟨d, u', ed, hd⟩ := tokOk_first h2
      have hz : x.token.size ≠ 0 := by
        intro h
        have := empty_of h
        rw [this] at ed
        cases ed
      have htt : tokT x.token = 32 :: x.token.data.toList := by unfold tokT; rw [if_neg hz]
      rw [htt, ed]
      exact .inr ⟨d, u' ++ [] ++ T, by simp, ((kinds d).2 hd).1, ((kinds d).2 hd).2.2⟩
  obtain ⟨R, hR, hcase⟩ := hrest
  refine ⟨?_, ?_, by rw [es]; simp⟩
  · rw [hR]
    unfold nameL
    rcases hcase with hE | ⟨d, u, rfl, hd1, hd2⟩
    · rw [dw_app tokB hall (tw_end tokB (by decide) hE).2, (tw_end blankB (by decide) hE).2]
      split
      · rfl
      · rcases hE with rfl | ⟨t, rfl⟩ <;> rfl
    · rw [dw_app tokB hall (dw_first tokB _ (by decide)).1, List.dropWhile_cons_of_pos (by decide), (dw_first blankB _ hd2).1]
      split
      · rfl
      · show Option.map _ (if d = 61 then some u else none) = none
        rw [if_neg hd1]
        rfl
  · rw [hR, es]
    exact (dw_first gapB _ ((kinds c).1 hc).2.2.2.2).1
theorem parse_gapsL {f : Nat} {acc : List Chal} {u v : List UInt8} (h : u.dropWhile gapB = v.dropWhile gapB) : parseL (f + 1) acc u = parseL (f + 1) acc v := by rw [parseL, parseL, h]
theorem print_ends : ∀ {xs : List Chal} {i : Nat} {T : List UInt8}, printL (i + 1) xs = .ok T → Ends T
  | [], i, T, h => by cases h; exact .inl rfl
  | x :: r, i, T, h => by
    rw [printL] at h
    rcases hc : chalT x with _ | a
    · rw [hc] at h; cases h
    · rw [hc] at h
      rcases hr : printL (i + 1 + 1) r with e | b
      · simp only [hr] at h; cases h
      · simp only [hr] at h
        cases h
        exact .inr ⟨32 :: (a ++ b), by simp [sepC]⟩
theorem parse_print : ∀ (xs : List Chal) (acc : List Chal) (f i : Nat) (T : List UInt8), (∀ x ∈ xs, Good x) → acc.length + xs.length ≤ 8 → printL i xs = .ok T → T.length < f → parseL f acc T = .ok (acc ++ xs)
  | xs, acc, 0, i, T, _, _, _, hf => absurd hf (Nat.not_lt_zero _)
  | [], acc, f + 1, i, T, _, _, h, _ => by
    cases h
    rw [parseL, List.append_nil]
    rfl
  | x :: r, acc, f + 1, i, T, hg, hl, h, hf => by
    rw [printL] at h
    rcases hc : chalT x with _ | a
    · rw [hc] at h; cases h
    · rw [hc] at h
      rcases hr : printL (i + 1) r with e | b
      · simp only [hr] at h; cases h
      · simp only [hr] at h
        cases h
        have hE := print_ends hr
        obtain ⟨n1, n2, n3⟩ := head_next (hg x (by simp)) hc hE
        have hdw : (sepC i ++ a ++ b).dropWhile gapB = a ++ b := by
          unfold sepC
          split
          · rw [List.nil_append]; exact n2
          · rw [List.append_assoc, List.cons_append, List.dropWhile_cons_of_pos (by decide), List.cons_append, List.dropWhile_cons_of_pos (by decide), List.nil_append]
            exact n2
        have hnb : nameL (b.dropWhile gapB) = none := by
          cases r with
          | nil => cases hr; rfl
          | cons y r' =>
            rw [printL] at hr
            rcases hc' : chalT y with _ | a'
            · rw [hc'] at hr; cases hr
            · rw [hc'] at hr
              rcases hr' : printL (i + 1 + 1) r' with e | b'
              · simp only [hr'] at hr; cases hr
              · simp only [hr'] at hr
                cases hr
                have hE' := print_ends hr'
                obtain ⟨k1, k2, _⟩ := head_next (hg y (by simp)) hc' hE'
                have : (sepC (i + 1) ++ a' ++ b').dropWhile gapB = a' ++ b' := by
                  unfold sepC
                  rw [if_neg (by omega), List.append_assoc, List.cons_append, List.dropWhile_cons_of_pos (by decide), List.cons_append, List.dropWhile_cons_of_pos (by decide), List.nil_append]
                  exact k2
                rw [this]
                exact k1
        obtain ⟨u, hu1, hu2⟩ := chal_print (hg x (by simp)) hc acc.length (by simp at hl; omega) hE hnb
        rw [parseL, hdw, if_neg (by intro e; exact n3 (List.append_eq_nil_iff.1 e).1), hu1]
        simp only []
        have hf0 : 0 < f := by
          have := List.length_pos_iff.2 n3
          simp at hf
          omega
        obtain ⟨f', rfl⟩ : ∃ f', f = f' + 1 := ⟨f - 1, by omega⟩
        rw [parse_gapsL hu2, parse_print r (acc ++ [x]) (f' + 1) (i + 1) b (fun y hy => hg y (by simp [hy])) (by simp at hl ⊢; omega) hr (by have := List.length_pos_iff.2 n3; simp at hf; omega)]
        simp
/-- What is written so is read as it is. -/
theorem ask_print {xs : List Chal} {T : List UInt8} (hg : ∀ x ∈ xs, Good x) (hl : xs.length ≤ 8) (h : printL 0 xs = .ok T) : askL T = .ok xs := by
  unfold askL
  rw [parse_print xs [] _ 0 T hg (by simpa using hl) h (by omega)]
  rfl
end Go.Proofs.YtooaiamfbmjmnaaGreatDoor
