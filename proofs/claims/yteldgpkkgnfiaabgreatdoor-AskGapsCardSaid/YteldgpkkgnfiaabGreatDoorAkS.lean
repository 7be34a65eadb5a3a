/- Gaps at both ends of a header are nothing, over lists of bytes. -/
import Derived.Test.YteldgpkkgnfiaabGreatDoorAk
namespace Go.Proofs.YteldgpkkgnfiaabGreatDoor

theorem parse_fuel : ∀ (f f' : Nat) (acc : List Chal) (r : List UInt8), r.length < f → r.length < f' → parseL f acc r = parseL f' acc r
  | 0, f', acc, r, h, _ => absurd h (Nat.not_lt_zero _)
  | f + 1, 0, acc, r, _, h => absurd h (Nat.not_lt_zero _)
  | f + 1, f' + 1, acc, r, h, h' => by
    rw [parseL, parseL]
    split
    · rfl
    · rcases hc : chalL acc.length (r.dropWhile gapB) with e | ⟨x, u⟩
      · rfl
      · have h1 := chalL_len _ _ _ _ hc
        have h2 := dw_len gapB r
        exact parse_fuel f f' _ _ (by omega) (by omega)
theorem ask_ahead (g s : List UInt8) (hg : g.all gapB = true) : askL (g ++ s) = askL s := by
  unfold askL
  have e : (g ++ s).dropWhile gapB = s.dropWhile gapB := List.dropWhile_append_of_pos (by simpa [List.all_eq_true] using hg)
  have e2 : parseL ((g ++ s).length + 1) [] (g ++ s) = parseL ((g ++ s).length + 1) [] s := by rw [parseL, parseL, e]
  rw [e2]
  exact parse_fuel _ _ _ _ (by simp; omega) (by omega)
/-- Some gaps more behind. -/
def Ext (r r' : List UInt8) : Prop := ∃ z, z.all gapB = true ∧ r' = r ++ z
theorem dw_gap (f : UInt8 → Bool) {z : List UInt8} (h : z.all gapB = true) : (z.dropWhile f).all gapB = true := by
  rw [List.all_eq_true] at h ⊢
  exact fun x hx => h x ((List.dropWhile_sublist f).subset hx)
theorem ext_other {f : UInt8 → Bool} (hf : ∀ c, gapB c = true → f c = false) {r r' : List UInt8} (h : Ext r r') : r'.takeWhile f = r.takeWhile f ∧ Ext (r.dropWhile f) (r'.dropWhile f) ∧ (∃ z, z.all gapB = true ∧ r' = r ++ z ∧ r'.dropWhile f = r.dropWhile f ++ z) := by
  obtain ⟨z, hz, rfl⟩ := h
  have hz1 : z.takeWhile f = [] ∧ z.dropWhile f = z := by
    cases z with
    | nil => exact ⟨rfl, rfl⟩
    | cons c t =>
      rw [List.all_cons, Bool.and_eq_true] at hz
      rw [List.takeWhile_cons, List.dropWhile_cons, hf c hz.1]
      exact ⟨rfl, rfl⟩
  have h1 : (r ++ z).takeWhile f = r.takeWhile f ∧ (r ++ z).dropWhile f = r.dropWhile f ++ z := by
    induction r with
    | nil => exact ⟨hz1.1, hz1.2⟩
    | cons c t ih =>
      by_cases hc : f c = true
      · rw [List.cons_append, List.takeWhile_cons_of_pos hc, List.takeWhile_cons_of_pos hc, List.dropWhile_cons_of_pos hc, List.dropWhile_cons_of_pos hc, ih.1, ih.2]
        exact ⟨rfl, rfl⟩
      · rw [List.cons_append, List.takeWhile_cons_of_neg hc, List.takeWhile_cons_of_neg hc, List.dropWhile_cons_of_neg hc, List.dropWhile_cons_of_neg hc]
        exact ⟨rfl, rfl⟩
  exact ⟨h1.1, ⟨z, hz, h1.2⟩, z, hz, rfl, h1.2⟩
theorem gap_tok : ∀ c, gapB c = true → tokB c = false ∧ tkB c = false ∧ eqB c = false := by
  intro c
  have : ∀ n : Fin 256, gapB (UInt8.ofNat n.1) = true → tokB (UInt8.ofNat n.1) = false ∧ tkB (UInt8.ofNat n.1) = false ∧ eqB (UInt8.ofNat n.1) = false := by decide +kernel
  have h := this ⟨c.toNat, c.toNat_lt⟩
  simpa using h
/-- Behind blanks: the same and gaps, or commas. -/
theorem ext_blank {r r' : List UInt8} (h : Ext r r') : (r.dropWhile blankB ≠ [] ∧ (∃ z, z.all gapB = true ∧ r'.dropWhile blankB = r.dropWhile blankB ++ z) ∧ r'.takeWhile blankB = r.takeWhile blankB) ∨ (r.dropWhile blankB = [] ∧ (r'.dropWhile blankB).all gapB = true ∧ ∀ c t, r'.dropWhile blankB = c :: t → c = 44) := by
  obtain ⟨z, hz, rfl⟩ := h
  induction r with
  | nil =>
    refine .inr ⟨rfl, dw_gap _ hz, fun c t hc => ?_⟩
    have h1 : c ∈ z.dropWhile blankB := by rw [show ([] ++ z : List UInt8) = z from rfl] at hc; rw [hc]; simp
    have h2 := List.all_eq_true.1 (dw_gap blankB hz) c h1
    have h3 : blankB c = false := by
      cases hb : blankB c
      · rfl
      · have := List.head?_dropWhile_not blankB z
        rw [show ([] ++ z : List UInt8) = z from rfl] at hc
        rw [hc] at this
        simp [hb] at this
    unfold gapB at h2
    rw [h3, Bool.false_or] at h2
    simpa using h2
  | cons c t ih =>
    by_cases hc : blankB c = true
    · rw [List.cons_append, List.dropWhile_cons_of_pos hc, List.dropWhile_cons_of_pos hc, List.takeWhile_cons_of_pos hc, List.takeWhile_cons_of_pos hc]
      rcases ih with ⟨h1, h2, h3⟩ | h1
      · exact .inl ⟨h1, h2, by rw [h3]⟩
      · exact .inr h1
    · rw [List.cons_append, List.dropWhile_cons_of_neg hc, List.dropWhile_cons_of_neg hc, List.takeWhile_cons_of_neg hc, List.takeWhile_cons_of_neg hc]
      exact .inl ⟨by simp, ⟨z, hz, rfl⟩, rfl⟩
theorem blank_ext {r r' : List UInt8} (h : Ext r r') : Ext (r.dropWhile blankB) (r'.dropWhile blankB) := by
  rcases ext_blank h with ⟨_, ⟨z, hz, e⟩, _⟩ | ⟨h1, h2, _⟩
  · exact ⟨z, hz, e⟩
  · exact ⟨_, h2, by rw [h1]; rfl⟩
theorem stops_ext {r r' : List UInt8} (h : Ext r r') : stopsL (r'.dropWhile blankB) = stopsL (r.dropWhile blankB) := by
  rcases ext_blank h with ⟨h1, ⟨z, hz, e⟩, _⟩ | ⟨h1, h2, h3⟩
  · rw [e]
    cases hr : r.dropWhile blankB with
    | nil => exact absurd hr h1
    | cons c t => rfl
  · rw [h1]
    cases hr : r'.dropWhile blankB with
    | nil => rfl
    | cons c t => rw [h3 c t hr]; rfl
theorem gaps_ext {r r' : List UInt8} (h : Ext r r') : Ext (r.dropWhile gapB) (r'.dropWhile gapB) ∧ (r.dropWhile gapB = [] → r'.dropWhile gapB = []) := by
  obtain ⟨z, hz, rfl⟩ := h
  have hz0 : z.dropWhile gapB = [] := (dw_nil _ _).2 hz
  induction r with
  | nil => exact ⟨⟨[], rfl, by rw [show ([] ++ z : List UInt8) = z from rfl, hz0]; rfl⟩, fun _ => hz0⟩
  | cons c t ih =>
    by_cases hc : gapB c = true
    · rw [List.cons_append, List.dropWhile_cons_of_pos hc, List.dropWhile_cons_of_pos hc]
      exact ih
    · rw [List.cons_append, List.dropWhile_cons_of_neg hc, List.dropWhile_cons_of_neg hc]
      exact ⟨⟨z, hz, rfl⟩, fun e => by cases e⟩
theorem unq_more : ∀ (l : List UInt8) (e : Bool) (t : List UInt8) (n : Nat) (m : List UInt8), unqL e l = some (t, n) → unqL e (l ++ m) = some (t, n)
  | [], e, t, n, m, h => by cases h
  | c :: r, e, t, n, m, h => by
    rw [List.cons_append]
    rw [unqL] at h ⊢
    by_cases hc : textB c = false
    · rw [if_pos hc] at h; cases h
    · rw [if_neg hc] at h ⊢
      cases e
      · simp only [Bool.false_eq_true, if_false] at h ⊢
        by_cases h34 : c = 34
        · rw [if_pos h34] at h ⊢; exact h
        · rw [if_neg h34] at h ⊢
          by_cases h92 : c = 92
          · rw [if_pos h92] at h ⊢
            obtain ⟨⟨a, b⟩, h1, h2⟩ := Option.map_eq_some_iff.1 h
            rw [unq_more r true a b m h1]
            rw [← h2]; rfl
          · rw [if_neg h92] at h ⊢
            obtain ⟨⟨a, b⟩, h1, h2⟩ := Option.map_eq_some_iff.1 h
            rw [unq_more r false a b m h1]
            rw [← h2]; rfl
      · simp only [if_true] at h ⊢
        obtain ⟨⟨a, b⟩, h1, h2⟩ := Option.map_eq_some_iff.1 h
        rw [unq_more r false a b m h1]
        rw [← h2]; rfl
theorem quoted_more {l t m : List UInt8} {n : Nat} (h : quotedL l = some (t, n)) : quotedL (l ++ m) = some (t, n) := by
  cases l with
  | nil => cases h
  | cons c r =>
    rw [List.cons_append]
    rw [quotedL] at h ⊢
    by_cases hc : c = 34
    · rw [if_pos hc] at h ⊢
      obtain ⟨⟨a, b⟩, h1, h2⟩ := Option.map_eq_some_iff.1 h
      rw [unq_more r false a b m h1, ← h2]
      rfl
    · rw [if_neg hc] at h; cases h
theorem mark_ext {r r' t : List UInt8} (h : Ext r r') (hm : markL r = some t) : ∃ t', markL r' = some t' ∧ Ext t t' := by
  obtain ⟨z, hz, rfl⟩ := h
  cases r with
  | nil => cases hm
  | cons c u =>
    rw [List.cons_append]
    rw [markL] at hm ⊢
    by_cases hc : c = 61
    · rw [if_pos hc] at hm ⊢
      cases hm
      exact ⟨_, rfl, z, hz, rfl⟩
    · rw [if_neg hc] at hm; cases hm
theorem name_ext {r r' : List UInt8} (h : Ext r r') : (∀ n t, nameL r = some (n, t) → ∃ t', nameL r' = some (n, t') ∧ Ext t t') ∧ (nameL r = none → nameL r' = none) := by
  obtain ⟨h1, h2, _⟩ := ext_other (f := tokB) (fun c hc => (gap_tok c hc).1) h
  refine ⟨fun n t hn => ?_, fun hn => ?_⟩
  · unfold nameL at hn ⊢
    rw [h1]
    by_cases h0 : r.takeWhile tokB = []
    · rw [if_pos h0] at hn; cases hn
    · rw [if_neg h0] at hn ⊢
      obtain ⟨u, hu, e⟩ := Option.map_eq_some_iff.1 hn
      obtain ⟨u', hu', he⟩ := mark_ext (blank_ext h2) hu
      simp only [Prod.mk.injEq] at e
      rw [hu', ← e.1, ← e.2]
      exact ⟨u', rfl, he⟩
  · unfold nameL at hn ⊢
    rw [h1]
    by_cases h0 : r.takeWhile tokB = []
    · rw [if_pos h0]
    · rw [if_neg h0] at hn ⊢
      have hm := Option.map_eq_none_iff.1 hn
      rw [Option.map_eq_none_iff]
      rcases ext_blank h2 with ⟨k1, ⟨z, hz, e⟩, _⟩ | ⟨k1, k2, k3⟩
      · rw [e]
        cases hr : (r.dropWhile tokB).dropWhile blankB with
        | nil => exact absurd hr k1
        | cons c u =>
          rw [hr] at hm
          rw [List.cons_append]
          rw [markL] at hm ⊢
          by_cases hc : c = 61
          · rw [if_pos hc] at hm; cases hm
          · rw [if_neg hc]
      · cases hr : (r'.dropWhile tokB).dropWhile blankB with
        | nil => rfl
        | cons c u =>
          rw [k3 c u hr, markL, if_neg (by decide)]
theorem value_ext {r r' u : List UInt8} {v : ByteArray} (h : Ext r r') (hv : valueL r = some (v, u)) : ∃ u', valueL r' = some (v, u') ∧ Ext u u' := by
  obtain ⟨h1, h2, _⟩ := ext_other (f := tokB) (fun c hc => (gap_tok c hc).1) h
  unfold valueL at hv ⊢
  rw [h1]
  by_cases h0 : r.takeWhile tokB = []
  · rw [if_pos h0] at hv ⊢
    obtain ⟨⟨a, b⟩, hq, e⟩ := Option.map_eq_some_iff.1 hv
    obtain ⟨z, hz, rfl⟩ := h
    have hn := (quoted_size _ _ _ hq).2
    simp only [Prod.mk.injEq] at e
    rw [quoted_more hq]
    refine ⟨(r ++ z).drop b, by rw [← e.1]; rfl, z, hz, ?_⟩
    rw [← e.2, List.drop_append_of_le_length hn]
  · rw [if_neg h0] at hv ⊢
    cases hv
    exact ⟨_, rfl, h2⟩
theorem param_ext {acc : List Par} {r r' u : List UInt8} {p : Par} (h : Ext r r') (hp : paramL acc r = .ok (p, u)) : ∃ u', paramL acc r' = .ok (p, u') ∧ Ext u u' := by
  unfold paramL at hp ⊢
  rcases hn : nameL r with _ | ⟨n, t⟩
  · rw [hn] at hp; cases hp
  · rw [hn] at hp
    obtain ⟨t', hn', ht⟩ := (name_ext h).1 n t hn
    rw [hn']
    rcases hv : valueL (t.dropWhile blankB) with _ | ⟨v, w⟩
    · simp only [hv] at hp; cases hp
    · obtain ⟨w', hv', hw⟩ := value_ext (blank_ext ht) hv
      simp only [hv, hv'] at hp ⊢
      by_cases ht : toldL acc n = true
      · rw [if_pos ht] at hp; cases hp
      · rw [if_neg ht] at hp ⊢
        by_cases h16 : 16 ≤ acc.length
        · rw [if_pos h16] at hp; cases hp
        · rw [if_neg h16] at hp ⊢
          cases hp
          exact ⟨w', rfl, hw⟩
theorem params_ext : ∀ (f f' : Nat) (acc : List Par) (r r' : List UInt8) (ps : List Par) (u : List UInt8), f ≤ f' → Ext r r' → paramsL f acc r = .ok (ps, u) → ∃ u', paramsL f' acc r' = .ok (ps, u') ∧ Ext u u'
  | 0, f', acc, r, r', ps, u, _, _, h => by cases h
  | f + 1, 0, acc, r, r', ps, u, hf, _, _ => absurd hf (Nat.not_succ_le_zero _)
  | f + 1, f' + 1, acc, r, r', ps, u, hf, hr, h => by
    rw [paramsL] at h ⊢
    rcases hp : paramL acc r with e | ⟨p, v⟩
    · rw [hp] at h; cases h
    · rw [hp] at h
      obtain ⟨v', hp', hv⟩ := param_ext hr hp
      rw [hp']
      simp only at h ⊢
      rw [stops_ext hv]
      by_cases hs : stopsL (v.dropWhile blankB) = true
      · rw [if_pos hs] at h ⊢
        obtain ⟨hg, _⟩ := gaps_ext (blank_ext hv)
        rcases hn : nameL ((v.dropWhile blankB).dropWhile gapB) with _ | ⟨n, t⟩
        · rw [hn] at h
          rw [(name_ext hg).2 hn]
          simp only [Option.isSome_none, Bool.false_eq_true, if_false] at h ⊢
          cases h
          exact ⟨_, rfl, hg⟩
        · obtain ⟨t', hn', _⟩ := (name_ext hg).1 n t hn
          rw [hn] at h
          rw [hn']
          simp only [Option.isSome_some, if_true] at h ⊢
          exact params_ext f f' _ _ _ _ _ (Nat.le_of_succ_le_succ hf) hg h
      · rw [if_neg hs] at h; cases h
theorem token_ext {r r' : List UInt8} (h : Ext r r') : (∀ t u, tokenL r = some (t, u) → ∃ u', tokenL r' = some (t, u') ∧ Ext u u') ∧ (tokenL r = none → tokenL r' = none) := by
  obtain ⟨_, h2, z, hz, er, e1⟩ := ext_other (f := tkB) (fun c hc => (gap_tok c hc).2.1) h
  obtain ⟨_, h3, z2, _, er2, e2⟩ := ext_other (f := eqB) (fun c hc => (gap_tok c hc).2.2) h2
  have hz2 : z2 = z := by rw [e1] at er2; exact (List.append_cancel_left er2).symm
  subst hz2
  have hl1 : ((r'.dropWhile tkB).length < r'.length) ↔ ((r.dropWhile tkB).length < r.length) := by rw [e1, er]; simp
  have hl2 : r'.length - ((r'.dropWhile tkB).dropWhile eqB).length = r.length - ((r.dropWhile tkB).dropWhile eqB).length := by rw [e2, er]; simp only [List.length_append]; omega
  have hle : r.length - ((r.dropWhile tkB).dropWhile eqB).length ≤ r.length := Nat.sub_le _ _
  refine ⟨fun t u ht => ?_, fun ht => ?_⟩
  · unfold tokenL at ht ⊢
    by_cases hc : (r.dropWhile tkB).length < r.length ∧ stopsL (((r.dropWhile tkB).dropWhile eqB).dropWhile blankB) = true
    · rw [if_pos hc] at ht
      rw [if_pos ⟨hl1.2 hc.1, by rw [stops_ext h3]; exact hc.2⟩]
      cases ht
      refine ⟨_, ?_, blank_ext h3⟩
      rw [hl2, er, List.take_append_of_le_length hle]
    · rw [if_neg hc] at ht; cases ht
  · unfold tokenL at ht ⊢
    by_cases hc : (r.dropWhile tkB).length < r.length ∧ stopsL (((r.dropWhile tkB).dropWhile eqB).dropWhile blankB) = true
    · rw [if_pos hc] at ht; cases ht
    · rw [if_neg (fun h' => hc ⟨hl1.1 h'.1, by rw [← stops_ext h3]; exact h'.2⟩)]
theorem chal_ext {a : Nat} {r r' u : List UInt8} {x : Chal} (h : Ext r r') (hc : chalL a r = .ok (x, u)) : ∃ u', chalL a r' = .ok (x, u') ∧ Ext u u' := by
  obtain ⟨h1, h2, _⟩ := ext_other (f := tokB) (fun c hc => (gap_tok c hc).1) h
  unfold chalL at hc ⊢
  rw [h1]
  by_cases h0 : r.takeWhile tokB = []
  · rw [if_pos h0] at hc; cases hc
  · rw [if_neg h0] at hc ⊢
    by_cases h8 : 8 ≤ a
    · rw [if_pos h8] at hc; cases hc
    · rw [if_neg h8] at hc ⊢
      rw [stops_ext h2]
      by_cases hs : stopsL ((r.dropWhile tokB).dropWhile blankB) = true
      · rw [if_pos hs] at hc ⊢
        cases hc
        exact ⟨_, rfl, blank_ext h2⟩
      · rw [if_neg hs] at hc ⊢
        have hne : (r.dropWhile tokB).dropWhile blankB ≠ [] := fun e => hs (by rw [e]; rfl)
        have hrun : runL blankB (r'.dropWhile tokB) = runL blankB (r.dropWhile tokB) := by
          rcases ext_blank h2 with ⟨_, _, e⟩ | ⟨e, _, _⟩
          · unfold runL; rw [e]
          · exact absurd e hne
        rw [hrun]
        by_cases hr : runL blankB (r.dropWhile tokB) = 0
        · rw [if_pos hr] at hc; cases hc
        · rw [if_neg hr] at hc ⊢
          have hb := blank_ext h2
          unfold insideL at hc ⊢
          rcases ht : tokenL ((r.dropWhile tokB).dropWhile blankB) with _ | ⟨t, v⟩
          · rw [ht] at hc
            rw [(token_ext hb).2 ht]
            simp only at hc ⊢
            rcases hp : paramsL (((r.dropWhile tokB).dropWhile blankB).length + 1) [] ((r.dropWhile tokB).dropWhile blankB) with e | ⟨ps, v⟩
            · rw [hp] at hc; cases hc
            · rw [hp] at hc
              have hlen : ((r.dropWhile tokB).dropWhile blankB).length + 1 ≤ ((r'.dropWhile tokB).dropWhile blankB).length + 1 := by
                obtain ⟨z, _, e⟩ := hb
                rw [e]
                simp
              obtain ⟨v', hp', hv⟩ := params_ext _ _ _ _ _ _ _ hlen hb hp
              rw [hp']
              cases hc
              exact ⟨v', rfl, hv⟩
          · rw [ht] at hc
            obtain ⟨v', ht', hv⟩ := (token_ext hb).1 t v ht
            rw [ht']
            cases hc
            exact ⟨v', rfl, hv⟩
theorem parse_ext : ∀ (f f' : Nat) (acc : List Chal) (r r' : List UInt8) (xs : List Chal), f ≤ f' → Ext r r' → parseL f acc r = .ok xs → parseL f' acc r' = .ok xs
  | 0, f', acc, r, r', xs, _, _, h => by cases h
  | f + 1, 0, acc, r, r', xs, hf, _, _ => absurd hf (Nat.not_succ_le_zero _)
  | f + 1, f' + 1, acc, r, r', xs, hf, hr, h => by
    obtain ⟨hg, hg0⟩ := gaps_ext hr
    rw [parseL] at h ⊢
    by_cases he : r.dropWhile gapB = []
    · rw [if_pos he] at h
      rw [if_pos (hg0 he)]
      exact h
    · rw [if_neg he] at h
      rcases hc : chalL acc.length (r.dropWhile gapB) with e | ⟨x, u⟩
      · rw [hc] at h; cases h
      · rw [hc] at h
        obtain ⟨u', hc', hu⟩ := chal_ext hg hc
        have hne : r'.dropWhile gapB ≠ [] := by
          obtain ⟨z, _, e⟩ := hg
          rw [e]
          intro e2
          exact he (List.append_eq_nil_iff.1 e2).1
        rw [if_neg hne, hc']
        exact parse_ext f f' _ _ _ _ (Nat.le_of_succ_le_succ hf) hu h
theorem ask_behind {s z : List UInt8} {xs : List Chal} (hz : z.all gapB = true) (h : askL s = .ok xs) : askL (s ++ z) = .ok xs := by
  unfold askL at h ⊢
  exact parse_ext _ _ _ _ _ _ (by simp) ⟨z, hz, rfl⟩ h
end Go.Proofs.YteldgpkkgnfiaabGreatDoor
