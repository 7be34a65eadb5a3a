/- Texts of one claim, joined: each begins with what it proves. -/
import Derived.Test.YtlmfhbffknganaaGreatDoorJo3
import Derived.Test.YtlmfhbffknganaaGreatDoorJo1
import Derived.Test.YtlmfhbffknganaaGreatDoorJo5
import Derived.Shelf.Strings.Repeat
import Derived.LaidEql
import Derived.Stop.Asserts
import Derived.RowKitTokens
import Derived.LaidMore
import Derived.LaidHandle
import Derived.Shelf.LaysM
import Derived.Shelf.Strings.Search3
import Derived.Shelf.Strings.Shaped
import Derived.Below
import Derived.Handed
import Derived.Lay
/- Gaps at both ends of a header are nothing, over lists of bytes. -/
namespace Go.Proofs.YtlmfhbffknganaaGreatDoor

theorem parse_fuel : ∀ (f f' : Nat) (acc : List Chal) (r : List UInt8), r.length < f → r.length < f' → parseL f acc r = parseL f' acc r
  | 0, f', acc, r, h, _ => absurd h (Nat.not_lt_zero _)
  | f + 1, 0, acc, r, _, h => absurd h (Nat.not_lt_zero _)
  | f + 1, f' + 1, acc, r, h, h' => by
    rw [parseL, parseL]
    split
    · rfl
    · rcases hc : chalL acc.length (r.dropWhile gapB) with e | ⟨x, u⟩
      · rfl
      · have h1 := chalL_len _ _ _ _ hc
        have h2 := dw_len gapB r
        exact parse_fuel f f' _ _ (by omega) (by omega)
theorem ask_ahead (g s : List UInt8) (hg : g.all gapB = true) : askL (g ++ s) = askL s := by
  unfold askL
  have e : (g ++ s).dropWhile gapB = s.dropWhile gapB := List.dropWhile_append_of_pos (by simpa [List.all_eq_true] using hg)
  have e2 : parseL ((g ++ s).length + 1) [] (g ++ s) = parseL ((g ++ s).length + 1) [] s := by rw [parseL, parseL, e]
  rw [e2]
  exact parse_fuel _ _ _ _ (by simp; omega) (by omega)
/-- Some gaps more behind. -/
def Ext (r r' : List UInt8) : Prop := ∃ z, z.all gapB = true ∧ r' = r ++ z
theorem dw_gap (f : UInt8 → Bool) {z : List UInt8} (h : z.all gapB = true) : (z.dropWhile f).all gapB = true := by
  rw [List.all_eq_true] at h ⊢
  exact fun x hx => h x ((List.dropWhile_sublist f).subset hx)
theorem ext_other {f : UInt8 → Bool} (hf : ∀ c, gapB c = true → f c = false) {r r' : List UInt8} (h : Ext r r') : r'.takeWhile f = r.takeWhile f ∧ Ext (r.dropWhile f) (r'.dropWhile f) ∧ (∃ z, z.all gapB = true ∧ r' = r ++ z ∧ r'.dropWhile f = r.dropWhile f ++ z) := by
  obtain ⟨z, hz, rfl⟩ := h
  have hz1 : z.takeWhile f = [] ∧ z.dropWhile f = z := by
    cases z with
    | nil => exact ⟨rfl, rfl⟩
    | cons c t =>
      rw [List.all_cons, Bool.and_eq_true] at hz
      rw [List.takeWhile_cons, List.dropWhile_cons, hf c hz.1]
      exact ⟨rfl, rfl⟩
  have h1 : (r ++ z).takeWhile f = r.takeWhile f ∧ (r ++ z).dropWhile f = r.dropWhile f ++ z := by
    induction r with
    | nil => exact ⟨hz1.1, hz1.2⟩
    | cons c t ih =>
      by_cases hc : f c = true
      · rw [List.cons_append, List.takeWhile_cons_of_pos hc, List.takeWhile_cons_of_pos hc, List.dropWhile_cons_of_pos hc, List.dropWhile_cons_of_pos hc, ih.1, ih.2]
        exact ⟨rfl, rfl⟩
      · rw [List.cons_append, List.takeWhile_cons_of_neg hc, List.takeWhile_cons_of_neg hc, List.dropWhile_cons_of_neg hc, List.dropWhile_cons_of_neg hc]
        exact ⟨rfl, rfl⟩
  exact ⟨h1.1, ⟨z, hz, h1.2⟩, z, hz, rfl, h1.2⟩
theorem gap_tok : ∀ c, gapB c = true → tokB c = false ∧ tkB c = false ∧ eqB c = false := by
  intro c
  have : ∀ n : Fin 256, gapB (UInt8.ofNat n.1) = true → tokB (UInt8.ofNat n.1) = false ∧ tkB (UInt8.ofNat n.1) = false ∧ eqB (UInt8.ofNat n.1) = false := by decide +kernel
  have h := this ⟨c.toNat, c.toNat_lt⟩
  simpa using h
/-- Behind blanks: the same and gaps, or commas. -/
theorem ext_blank {r r' : List UInt8} (h : Ext r r') : (r.dropWhile blankB ≠ [] ∧ (∃ z, z.all gapB = true ∧ r'.dropWhile blankB = r.dropWhile blankB ++ z) ∧ r'.takeWhile blankB = r.takeWhile blankB) ∨ (r.dropWhile blankB = [] ∧ (r'.dropWhile blankB).all gapB = true ∧ ∀ c t, r'.dropWhile blankB = c :: t → c = 44) := by
  obtain ⟨z, hz, rfl⟩ := h
  induction r with
  | nil =>
    refine .inr ⟨rfl, dw_gap _ hz, fun c t hc => ?_⟩
    have h1 : c ∈ z.dropWhile blankB := by rw [show ([] ++ z : List UInt8) = z from rfl] at hc; rw [hc]; simp
    have h2 := List.all_eq_true.1 (dw_gap blankB hz) c h1
    have h3 : blankB c = false := by
      cases hb : blankB c
      · rfl
      · have := List.head?_dropWhile_not blankB z
        rw [show ([] ++ z : List UInt8) = z from rfl] at hc
        rw [hc] at this
        simp [hb] at this
    unfold gapB at h2
    rw [h3, Bool.false_or] at h2
    simpa using h2
  | cons c t ih =>
    by_cases hc : blankB c = true
    · rw [List.cons_append, List.dropWhile_cons_of_pos hc, List.dropWhile_cons_of_pos hc, List.takeWhile_cons_of_pos hc, List.takeWhile_cons_of_pos hc]
      rcases ih with ⟨h1, h2, h3⟩ | h1
      · exact .inl ⟨h1, h2, by rw [h3]⟩
      · exact .inr h1
    · rw [List.cons_append, List.dropWhile_cons_of_neg hc, List.dropWhile_cons_of_neg hc, List.takeWhile_cons_of_neg hc, List.takeWhile_cons_of_neg hc]
      exact .inl ⟨by simp, ⟨z, hz, rfl⟩, rfl⟩
theorem blank_ext {r r' : List UInt8} (h : Ext r r') : Ext (r.dropWhile blankB) (r'.dropWhile blankB) := by
  rcases ext_blank h with ⟨_, ⟨z, hz, e⟩, _⟩ | ⟨h1, h2, _⟩
  · exact ⟨z, hz, e⟩
  · exact ⟨_, h2, by rw [h1]; rfl⟩
theorem stops_ext {r r' : List UInt8} (h : Ext r r') : stopsL (r'.dropWhile blankB) = stopsL (r.dropWhile blankB) := by
  rcases ext_blank h with ⟨h1, ⟨z, hz, e⟩, _⟩ | ⟨h1, h2, h3⟩
  · rw [e]
    cases hr : r.dropWhile blankB with
    | nil => exact absurd hr h1
    | cons c t => rfl
  · rw [h1]
    cases hr : r'.dropWhile blankB with
    | nil => rfl
    | cons c t => rw [h3 c t hr]; rfl
theorem gaps_ext {r r' : List UInt8} (h : Ext r r') : Ext (r.dropWhile gapB) (r'.dropWhile gapB) ∧ (r.dropWhile gapB = [] → r'.dropWhile gapB = []) := by
  obtain ⟨z, hz, rfl⟩ := h
  have hz0 : z.dropWhile gapB = [] := (dw_nil _ _).2 hz
  induction r with
  | nil => exact ⟨⟨[], rfl, by rw [show ([] ++ z : List UInt8) = z from rfl, hz0]; rfl⟩, fun _ => hz0⟩
  | cons c t ih =>
    by_cases hc : gapB c = true
    · rw [List.cons_append, List.dropWhile_cons_of_pos hc, List.dropWhile_cons_of_pos hc]
      exact ih
    · rw [List.cons_append, List.dropWhile_cons_of_neg hc, List.dropWhile_cons_of_neg hc]
      exact ⟨⟨z, hz, rfl⟩, fun e => by cases e⟩
theorem unq_more : ∀ (l : List UInt8) (e : Bool) (t : List UInt8) (n : Nat) (m : List UInt8), unqL e l = some (t, n) → unqL e (l ++ m) = some (t, n)
  | [], e, t, n, m, h => by cases h
  | c :: r, e, t, n, m, h => by
    rw [List.cons_append]
    rw [unqL] at h ⊢
    by_cases hc : textB c = false
    · rw [if_pos hc] at h; cases h
    · rw [if_neg hc] at h ⊢
      cases e
      · simp only [Bool.false_eq_true, if_false] at h ⊢
        by_cases h34 : c = 34
        · rw [if_pos h34] at h ⊢; exact h
        · rw [if_neg h34] at h ⊢
          by_cases h92 : c = 92
          · rw [if_pos h92] at h ⊢
            obtain ⟨⟨a, b⟩, h1, h2⟩ := Option.map_eq_some_iff.1 h
            rw [unq_more r true a b m h1]
            rw [← h2]; rfl
          · rw [if_neg h92] at h ⊢
            obtain ⟨⟨a, b⟩, h1, h2⟩ := Option.map_eq_some_iff.1 h
            rw [unq_more r false a b m h1]
            rw [← h2]; rfl
      · simp only [if_true] at h ⊢
        obtain ⟨⟨a, b⟩, h1, h2⟩ := Option.map_eq_some_iff.1 h
        rw [unq_more r false a b m h1]
        rw [← h2]; rfl
theorem quoted_more {l t m : List UInt8} {n : Nat} (h : quotedL l = some (t, n)) : quotedL (l ++ m) = some (t, n) := by
  cases l with
  | nil => cases h
  | cons c r =>
    rw [List.cons_append]
    rw [quotedL] at h ⊢
    by_cases hc : c = 34
    · rw [if_pos hc] at h ⊢
      obtain ⟨⟨a, b⟩, h1, h2⟩ := Option.map_eq_some_iff.1 h
      rw [unq_more r false a b m h1, ← h2]
      rfl
    · rw [if_neg hc] at h; cases h
theorem mark_ext {r r' t : List UInt8} (h : Ext r r') (hm : markL r = some t) : ∃ t', markL r' = some t' ∧ Ext t t' := by
  obtain ⟨z, hz, rfl⟩ := h
  cases r with
  | nil => cases hm
  | cons c u =>
    rw [List.cons_append]
    rw [markL] at hm ⊢
    by_cases hc : c = 61
    · rw [if_pos hc] at hm ⊢
      cases hm
      exact ⟨_, rfl, z, hz, rfl⟩
    · rw [if_neg hc] at hm; cases hm
theorem name_ext {r r' : List UInt8} (h : Ext r r') : (∀ n t, nameL r = some (n, t) → ∃ t', nameL r' = some (n, t') ∧ Ext t t') ∧ (nameL r = none → nameL r' = none) := by
  obtain ⟨h1, h2, _⟩ := ext_other (f := tokB) (fun c hc => (gap_tok c hc).1) h
  refine ⟨fun n t hn => ?_, fun hn => ?_⟩
  · unfold nameL at hn ⊢
    rw [h1]
    by_cases h0 : r.takeWhile tokB = []
    · rw [if_pos h0] at hn; cases hn
    · rw [if_neg h0] at hn ⊢
      obtain ⟨u, hu, e⟩ := Option.map_eq_some_iff.1 hn
      obtain ⟨u', hu', he⟩ := mark_ext (blank_ext h2) hu
      simp only [Prod.mk.injEq] at e
      rw [hu', ← e.1, ← e.2]
      exact ⟨u', rfl, he⟩
  · unfold nameL at hn ⊢
    rw [h1]
    by_cases h0 : r.takeWhile tokB = []
    · rw [if_pos h0]
    · rw [if_neg h0] at hn ⊢
      have hm := Option.map_eq_none_iff.1 hn
      rw [Option.map_eq_none_iff]
      rcases ext_blank h2 with ⟨k1, ⟨z, hz, e⟩, _⟩ | ⟨k1, k2, k3⟩
      · rw [e]
        cases hr : (r.dropWhile tokB).dropWhile blankB with
        | nil => exact absurd hr k1
        | cons c u =>
          rw [hr] at hm
          rw [List.cons_append]
          rw [markL] at hm ⊢
          by_cases hc : c = 61
          · rw [if_pos hc] at hm; cases hm
          · rw [if_neg hc]
      · cases hr : (r'.dropWhile tokB).dropWhile blankB with
        | nil => rfl
        | cons c u =>
          rw [k3 c u hr, markL, if_neg (by decide)]
theorem value_ext {r r' u : List UInt8} {v : ByteArray} (h : Ext r r') (hv : valueL r = some (v, u)) : ∃ u', valueL r' = some (v, u') ∧ Ext u u' := by
  obtain ⟨h1, h2, _⟩ := ext_other (f := tokB) (fun c hc => (gap_tok c hc).1) h
  unfold valueL at hv ⊢
  rw [h1]
  by_cases h0 : r.takeWhile tokB = []
  · rw [if_pos h0] at hv ⊢
    obtain ⟨⟨a, b⟩, hq, e⟩ := Option.map_eq_some_iff.1 hv
    obtain ⟨z, hz, rfl⟩ := h
    have hn := (quoted_size _ _ _ hq).2
    simp only [Prod.mk.injEq] at e
    rw [quoted_more hq]
    refine ⟨(r ++ z).drop b, by rw [← e.1]; rfl, z, hz, ?_⟩
    rw [← e.2, List.drop_append_of_le_length hn]
  · rw [if_neg h0] at hv ⊢
    cases hv
    exact ⟨_, rfl, h2⟩
theorem param_ext {acc : List Par} {r r' u : List UInt8} {p : Par} (h : Ext r r') (hp : paramL acc r = .ok (p, u)) : ∃ u', paramL acc r' = .ok (p, u') ∧ Ext u u' := by
  unfold paramL at hp ⊢
  rcases hn : nameL r with _ | ⟨n, t⟩
  · rw [hn] at hp; cases hp
  · rw [hn] at hp
    obtain ⟨t', hn', ht⟩ := (name_ext h).1 n t hn
    rw [hn']
    rcases hv : valueL (t.dropWhile blankB) with _ | ⟨v, w⟩
    · simp only [hv] at hp; cases hp
    · obtain ⟨w', hv', hw⟩ := value_ext (blank_ext ht) hv
      simp only [hv, hv'] at hp ⊢
      by_cases ht : toldL acc n = true
      · rw [if_pos ht] at hp; cases hp
      · rw [if_neg ht] at hp ⊢
        by_cases h16 : 16 ≤ acc.length
        · rw [if_pos h16] at hp; cases hp
        · rw [if_neg h16] at hp ⊢
          cases hp
          exact ⟨w', rfl, hw⟩
theorem params_ext : ∀ (f f' : Nat) (acc : List Par) (r r' : List UInt8) (ps : List Par) (u : List UInt8), f ≤ f' → Ext r r' → paramsL f acc r = .ok (ps, u) → ∃ u', paramsL f' acc r' = .ok (ps, u') ∧ Ext u u'
  | 0, f', acc, r, r', ps, u, _, _, h => by cases h
  | f + 1, 0, acc, r, r', ps, u, hf, _, _ => absurd hf (Nat.not_succ_le_zero _)
  | f + 1, f' + 1, acc, r, r', ps, u, hf, hr, h => by
    rw [paramsL] at h ⊢
    rcases hp : paramL acc r with e | ⟨p, v⟩
    · rw [hp] at h; cases h
    · rw [hp] at h
      obtain ⟨v', hp', hv⟩ := param_ext hr hp
      rw [hp']
      simp only at h ⊢
      rw [stops_ext hv]
      by_cases hs : stopsL (v.dropWhile blankB) = true
      · rw [if_pos hs] at h ⊢
        obtain ⟨hg, _⟩ := gaps_ext (blank_ext hv)
        rcases hn : nameL ((v.dropWhile blankB).dropWhile gapB) with _ | ⟨n, t⟩
        · rw [hn] at h
          rw [(name_ext hg).2 hn]
          simp only [Option.isSome_none, Bool.false_eq_true, if_false] at h ⊢
          cases h
          exact ⟨_, rfl, hg⟩
        · obtain ⟨t', hn', _⟩ := (name_ext hg).1 n t hn
          rw [hn] at h
          rw [hn']
          simp only [Option.isSome_some, if_true] at h ⊢
          exact params_ext f f' _ _ _ _ _ (Nat.le_of_succ_le_succ hf) hg h
      · rw [if_neg hs] at h; cases h
theorem token_ext {r r' : List UInt8} (h : Ext r r') : (∀ t u, tokenL r = some (t, u) → ∃ u', tokenL r' = some (t, u') ∧ Ext u u') ∧ (tokenL r = none → tokenL r' = none) := by
  obtain ⟨_, h2, z, hz, er, e1⟩ := ext_other (f := tkB) (fun c hc => (gap_tok c hc).2.1) h
  obtain ⟨_, h3, z2, _, er2, e2⟩ := ext_other (f := eqB) (fun c hc => (gap_tok c hc).2.2) h2
  have hz2 : z2 = z := by rw [e1] at er2; exact (List.append_cancel_left er2).symm
  subst hz2
  have hl1 : ((r'.dropWhile tkB).length < r'.length) ↔ ((r.dropWhile tkB).length < r.length) := by rw [e1, er]; simp
  have hl2 : r'.length - ((r'.dropWhile tkB).dropWhile eqB).length = r.length - ((r.dropWhile tkB).dropWhile eqB).length := by rw [e2, er]; simp only [List.length_append]; omega
  have hle : r.length - ((r.dropWhile tkB).dropWhile eqB).length ≤ r.length := Nat.sub_le _ _
  refine ⟨fun t u ht => ?_, fun ht => ?_⟩
  · unfold tokenL at ht ⊢
    by_cases hc : (r.dropWhile tkB).length < r.length ∧ stopsL (((r.dropWhile tkB).dropWhile eqB).dropWhile blankB) = true
    · rw [if_pos hc] at ht
      rw [if_pos ⟨hl1.2 hc.1, by rw [stops_ext h3]; exact hc.2⟩]
      cases ht
      refine ⟨_, ?_, blank_ext h3⟩
      rw [hl2, er, List.take_append_of_le_length hle]
    · rw [if_neg hc] at ht; cases ht
  · unfold tokenL at ht ⊢
    by_cases hc : (r.dropWhile tkB).length < r.length ∧ stopsL (((r.dropWhile tkB).dropWhile eqB).dropWhile blankB) = true
    · rw [if_pos hc] at ht; cases ht
    · rw [if_neg (fun h' => hc ⟨hl1.1 h'.1, by rw [← stops_ext h3]; exact h'.2⟩)]
theorem chal_ext {a : Nat} {r r' u : List UInt8} {x : Chal} (h : Ext r r') (hc : chalL a r = .ok (x, u)) : ∃ u', chalL a r' = .ok (x, u') ∧ Ext u u' := by
  obtain ⟨h1, h2, _⟩ := ext_other (f := tokB) (fun c hc => (gap_tok c hc).1) h
  unfold chalL at hc ⊢
  rw [h1]
  by_cases h0 : r.takeWhile tokB = []
  · rw [if_pos h0] at hc; cases hc
  · rw [if_neg h0] at hc ⊢
    by_cases h8 : 8 ≤ a
    · rw [if_pos h8] at hc; cases hc
    · rw [if_neg h8] at hc ⊢
      rw [stops_ext h2]
      by_cases hs : stopsL ((r.dropWhile tokB).dropWhile blankB) = true
      · rw [if_pos hs] at hc ⊢
        cases hc
        exact ⟨_, rfl, blank_ext h2⟩
      · rw [if_neg hs] at hc ⊢
        have hne : (r.dropWhile tokB).dropWhile blankB ≠ [] := fun e => hs (by rw [e]; rfl)
        have hrun : runL blankB (r'.dropWhile tokB) = runL blankB (r.dropWhile tokB) := by
          rcases ext_blank h2 with ⟨_, _, e⟩ | ⟨e, _, _⟩
          · unfold runL; rw [e]
          · exact absurd e hne
        rw [hrun]
        by_cases hr : runL blankB (r.dropWhile tokB) = 0
        · rw [if_pos hr] at hc; cases hc
        · rw [if_neg hr] at hc ⊢
          have hb := blank_ext h2
          unfold insideL at hc ⊢
          rcases ht : tokenL ((r.dropWhile tokB).dropWhile blankB) with _ | ⟨t, v⟩
          · rw [ht] at hc
            rw [(token_ext hb).2 ht]
            simp only at hc ⊢
            rcases hp : paramsL (((r.dropWhile tokB).dropWhile blankB).length + 1) [] ((r.dropWhile tokB).dropWhile blankB) with e | ⟨ps, v⟩
            · rw [hp] at hc; cases hc
            · rw [hp] at hc
              have hlen : ((r.dropWhile tokB).dropWhile blankB).length + 1 ≤ ((r'.dropWhile tokB).dropWhile blankB).length + 1 := by
                obtain ⟨z, _, e⟩ := hb
                rw [e]
                simp
              obtain ⟨v', hp', hv⟩ := params_ext _ _ _ _ _ _ _ hlen hb hp
              rw [hp']
              cases hc
              exact ⟨v', rfl, hv⟩
          · rw [ht] at hc
            obtain ⟨v', ht', hv⟩ := (token_ext hb).1 t v ht
            rw [ht']
            cases hc
            exact ⟨v', rfl, hv⟩
theorem parse_ext : ∀ (f f' : Nat) (acc : List Chal) (r r' : List UInt8) (xs : List Chal), f ≤ f' → Ext r r' → parseL f acc r = .ok xs → parseL f' acc r' = .ok xs
  | 0, f', acc, r, r', xs, _, _, h => by cases h
  | f + 1, 0, acc, r, r', xs, hf, _, _ => absurd hf (Nat.not_succ_le_zero _)
  | f + 1, f' + 1, acc, r, r', xs, hf, hr, h => by
    obtain ⟨hg, hg0⟩ := gaps_ext hr
    rw [parseL] at h ⊢
    by_cases he : r.dropWhile gapB = []
    · rw [if_pos he] at h
      rw [if_pos (hg0 he)]
      exact h
    · rw [if_neg he] at h
      rcases hc : chalL acc.length (r.dropWhile gapB) with e | ⟨x, u⟩
      · rw [hc] at h; cases h
      · rw [hc] at h
        obtain ⟨u', hc', hu⟩ := chal_ext hg hc
        have hne : r'.dropWhile gapB ≠ [] := by
          obtain ⟨z, _, e⟩ := hg
          rw [e]
          intro e2
          exact he (List.append_eq_nil_iff.1 e2).1
        rw [if_neg hne, hc']
        exact parse_ext f f' _ _ _ _ (Nat.le_of_succ_le_succ hf) hu h
theorem ask_behind {s z : List UInt8} {xs : List Chal} (hz : z.all gapB = true) (h : askL s = .ok xs) : askL (s ++ z) = .ok xs := by
  unfold askL at h ⊢
  exact parse_ext _ _ _ _ _ _ (by simp) ⟨z, hz, rfl⟩ h
end Go.Proofs.YtlmfhbffknganaaGreatDoor

/- One of n that a number stands for. -/
namespace Go.Proofs.YtlmfhbffknganaaGreatDoor
open Go.RowKit

def pickI (a n : Int) : Int := (a % 18446744073709551616) % n
theorem pickI_in (a n : Int) (h : 0 < n) : 0 ≤ pickI a n ∧ pickI a n < n := ⟨Int.emod_nonneg _ (by omega), Int.emod_lt_of_pos _ h⟩
theorem u64_wrap (a : Int) : IntKind.u64.wrap a = a % 18446744073709551616 := rfl
theorem pick_eq (a n : Int) (hn : 0 < n) (hn2 : n ≤ 4611686018427387904) : wrap64 ((IntKind.u64.wrap a).tmod n) = pickI a n := by
  rw [u64_wrap, Int.tmod_eq_emod_of_nonneg (Int.emod_nonneg _ (by decide))]
  have h := pickI_in a n hn
  unfold pickI at *
  unfold wrap64
  omega
set_option maxRecDepth 100000 in
set_option maxHeartbeats 1000000 in
theorem pick_any (a n : Int) (_h0 : -9223372036854775808 ≤ a) (_h1 : a ≤ 9223372036854775807) (hn : 0 < n) (hn2 : n ≤ 4611686018427387904) (w : World) :
    Calls Tryz.prog 14 #[.int .i64 a, .int .i64 n] w fun e w' => e = .returned (.int .i64 (pickI a n)) ∧ w' = w := by
  go_enter Tryz.func14, Tryz.ntmps14
  go_wp2
  go_ret
  exact ⟨congrArg (fun x => Ending.returned (.int .i64 x)) (pick_eq a n hn hn2), rfl⟩
end Go.Proofs.YtlmfhbffknganaaGreatDoor

/- The library's contracts that are leant on, laid at this program's numbers. -/
namespace Go.Proofs.YtlmfhbffknganaaGreatDoor
open Go.Shelf Go.RowKit
def lays105_ren : Go.Shelf.Ren := ⟨fun | 105 => 13 | 212 => 39 | 99 => 40 | 165 => 41 | 166 => 32 | 170 => 42 | 169 => 34 | 263 => 72 | 264 => 73 | 206 => 74 | 240 => 65 | 241 => 75 | 276 => 95 | 277 => 100 | n => n, fun | 9 => 9 | 3 => 3 | 4 => 4 | 20 => 20 | 0 => 0 | 46 => 82 | 109 => 83 | 5 => 5 | 72 => 69 | 76 => 70 | 51 => 109 | 146 => 110 | 53 => 112 | 148 => 113 | 70 => 66 | 37 => 67 | 75 => 26 | 127 => 105 | 164 => 115 | 80 => 76 | n => n, fun | n => n⟩
theorem lays105 : Go.Proofs.Lays.n105 Tryz.prog lays105_ren := {
  mixed := by kernel_rfl
  f99 := Tryz.func40.trans (congrArg some (by kernel_rfl))
  f105 := Tryz.func13.trans (congrArg some (by kernel_rfl))
  f165 := Tryz.func41.trans (congrArg some (by kernel_rfl))
  f166 := Tryz.func32.trans (congrArg some (by kernel_rfl))
  f169 := Tryz.func34.trans (congrArg some (by kernel_rfl))
  f170 := Tryz.func42.trans (congrArg some (by kernel_rfl))
  f206 := Tryz.func74.trans (congrArg some (by kernel_rfl))
  f212 := Tryz.func39.trans (congrArg some (by kernel_rfl))
  f240 := Tryz.func65.trans (congrArg some (by kernel_rfl))
  f241 := Tryz.func75.trans (congrArg some (by kernel_rfl))
  f263 := Tryz.func72.trans (congrArg some (by kernel_rfl))
  f264 := Tryz.func73.trans (congrArg some (by kernel_rfl))
  f276 := Tryz.func95.trans (congrArg some (by kernel_rfl))
  f277 := Tryz.func100.trans (congrArg some (by kernel_rfl))
  t0 := Tryz.underlying0
  a0 := Tryz.isAgg0
  z0 := Tryz.sizeOf0
  v0 := Tryz.zeroValue0
  t3 := Tryz.underlying3
  a3 := Tryz.isAgg3
  z3 := Tryz.sizeOf3
  v3 := Tryz.zeroValue3
  t4 := Tryz.underlying4
  a4 := Tryz.isAgg4
  z4 := Tryz.sizeOf4
  v4 := Tryz.zeroValue4
  t5 := Tryz.underlying5
  a5 := Tryz.isAgg5
  z5 := Tryz.sizeOf5
  v5 := Tryz.zeroValue5
  t9 := Tryz.underlying9
  a9 := Tryz.isAgg9
  z9 := Tryz.sizeOf9
  v9 := Tryz.zeroValue9
  t20 := Tryz.underlying20
  a20 := Tryz.isAgg20
  z20 := Tryz.sizeOf20
  v20 := Tryz.zeroValue20
  t37 := Tryz.underlying67
  a37 := Tryz.isAgg67
  z37 := Tryz.sizeOf67
  v37 := Tryz.zeroValue67
  t46 := Tryz.underlying82
  a46 := Tryz.isAgg82
  z46 := Tryz.sizeOf82
  v46 := Tryz.zeroValue82
  t51 := Tryz.underlying109
  a51 := Tryz.isAgg109
  z51 := Tryz.sizeOf109
  v51 := Tryz.zeroValue109
  t53 := Tryz.underlying112
  a53 := Tryz.isAgg112
  z53 := Tryz.sizeOf112
  v53 := Tryz.zeroValue112
  t70 := Tryz.underlying66
  a70 := Tryz.isAgg66
  z70 := Tryz.sizeOf66
  v70 := Tryz.zeroValue66
  t72 := Tryz.underlying69
  a72 := Tryz.isAgg69
  z72 := Tryz.sizeOf69
  v72 := Tryz.zeroValue69
  t75 := Tryz.underlying26
  a75 := Tryz.isAgg26
  z75 := Tryz.sizeOf26
  v75 := Tryz.zeroValue26
  t76 := Tryz.underlying70
  a76 := Tryz.isAgg70
  z76 := Tryz.sizeOf70
  v76 := Tryz.zeroValue70
  t109 := Tryz.underlying83
  a109 := Tryz.isAgg83
  z109 := Tryz.sizeOf83
  v109 := Tryz.zeroValue83
  t127 := Tryz.underlying105
  a127 := Tryz.isAgg105
  z127 := Tryz.sizeOf105
  v127 := Tryz.zeroValue105
  t146 := Tryz.underlying110
  a146 := Tryz.isAgg110
  z146 := Tryz.sizeOf110
  v146 := Tryz.zeroValue110
  t148 := Tryz.underlying113
  a148 := Tryz.isAgg113
  z148 := Tryz.sizeOf113
  v148 := Tryz.zeroValue113
  t164 := Tryz.underlying115
  a164 := Tryz.isAgg115
  z164 := Tryz.sizeOf115
  v164 := Tryz.zeroValue115 }
theorem Builder_Extra_105 : Builder.Extra Tryz.prog lays105_ren := {
  sizeBuilder := by kernel_rfl
  liesBuilder := by kernel_rfl
  t5 := Tryz.underlying5
  a5 := Tryz.isAgg5
  z5 := Tryz.sizeOf5
  v5 := Tryz.zeroValue5
  infoByte := by kernel_rfl
  cellsByte := by kernel_rfl
  sizeByte := by kernel_rfl
  neB5 := by decide }
end Go.Proofs.YtlmfhbffknganaaGreatDoor

/- Which number an error is, by errors.As: of no error, and of one that is such a number itself. -/
namespace Go.Proofs.YtlmfhbffknganaaGreatDoor
open Go.RowKit Go.Extern.Stop Go.Stop Go.Extern

theorem asValueOfP (t : Addr) (w : World) : (ReflectliteValue.unpack (.iface 87 (.pointer (some t)))).run Tryz.prog w
    = .ok (.agg #[.pointer (some ⟨4, 87, none⟩), .pointer (some ⟨w.heap.size, 0, none⟩), .int .u64 150]) (w.alloc (.cells #[.pointer (some t)] 87)) := by kernel_rfl
theorem asTypeP (a : Addr) (w : World) : (ReflectliteValue.methodAny (ReflectliteValue.valueError "reflectlite.Value.Type" 0) (fun t _ _ _ => ReflectliteType.toType t) #[.agg #[.pointer (some ⟨4, 87, none⟩), .pointer (some a), .int .u64 150]]).run Tryz.prog w
    = .ok (.iface 143 (.agg #[.pointer (some ⟨4, 87, none⟩)])) w := by kernel_rfl
theorem asKindP (w : World) : ((ReflectliteType.abiMethod fun t => (fun a : Nat => Value.int IntKind.u8 (a : Int)) <$> Rtype.kind t) #[.pointer (some ⟨4, 87, none⟩)]).run Tryz.prog w = .ok (.int .u8 22) w := by kernel_rfl
theorem asKindE (w : World) : ((ReflectliteType.abiMethod fun t => (fun a : Nat => Value.int IntKind.u8 (a : Int)) <$> Rtype.kind t) #[.pointer (some ⟨4, 38, none⟩)]).run Tryz.prog w = .ok (.int .u8 2) w := by kernel_rfl
theorem asMKind (h : Value) (w : World) : (Go.method 301 143 (.agg #[h]) "Kind").run Tryz.prog w = .ok (154, h) w := by kernel_rfl
theorem asMElem (h : Value) (w : World) : (Go.method 301 143 (.agg #[h]) "Elem").run Tryz.prog w = .ok (167, .agg #[h]) w := by kernel_rfl
theorem asMImpl (h : Value) (w : World) : (Go.method 301 143 (.agg #[h]) "Implements").run Tryz.prog w = .ok (168, .agg #[h]) w := by kernel_rfl
theorem asMAssign (h : Value) (w : World) : (Go.method 301 143 (.agg #[h]) "AssignableTo").run Tryz.prog w = .ok (165, .agg #[h]) w := by kernel_rfl
theorem asPartsP (a : Addr) (w : World) : (ReflectliteValue.parts (.agg #[.pointer (some ⟨4, 87, none⟩), .pointer (some a), .int .u64 150])).run Tryz.prog w = .ok (some (87, a, 150)) w := by kernel_rfl
theorem asIsNilP (a p : Addr) (W : World) (ha : W.cell? a = some (.pointer (some p))) :
    (ReflectliteValue.method (ReflectliteValue.valueError "reflectlite.Value.IsNil" 0) ReflectliteValue.isNil #[.agg #[.pointer (some ⟨4, 87, none⟩), .pointer (some a), .int .u64 150]]).run Tryz.prog W = .ok (.bool false) W := by
  refine Eq.trans (congrArg (fun z => Sem.run Tryz.prog z W) (show ReflectliteValue.method _ _ #[.agg #[.pointer (some ⟨4, 87, none⟩), .pointer (some a), .int .u64 150]] = _ >>= _ from rfl)) ?_
  simp only [Array.getLit, List.getElem_toArray, List.getElem_cons_zero]
  simp only [Sem.run_bind, asPartsP, Result.andThen]
  simp [ReflectliteValue.isNil, loadVar, isAgg, underlying, Tryz.underlying87, ha, Result.andThen]
theorem asElemP (w : World) : (ReflectliteType.method ReflectliteType.elem #[.agg #[.pointer (some ⟨4, 87, none⟩)]]).run Tryz.prog w = .ok (.iface 143 (.agg #[.pointer (some ⟨4, 38, none⟩)])) w := by kernel_rfl
theorem asImplE (w : World) : (ReflectliteType.relation "Implements" ReflectliteType.implements_ #[.agg #[.pointer (some ⟨4, 38, none⟩)], .iface 143 (.agg #[.pointer (some ⟨4, 26, none⟩)])]).run Tryz.prog w = .ok (.bool true) w := by kernel_rfl
theorem asTypeOfE (v : Value) (w : World) : (ReflectliteType.typeOf #[.iface 38 v]).run Tryz.prog w = .ok (.iface 143 (.agg #[.pointer (some ⟨4, 38, none⟩)])) w := by kernel_rfl
theorem asAssignE (w : World) : (ReflectliteType.relation "AssignableTo" ReflectliteType.assignableTo #[.agg #[.pointer (some ⟨4, 38, none⟩)], .iface 143 (.agg #[.pointer (some ⟨4, 38, none⟩)])]).run Tryz.prog w = .ok (.bool true) w := by kernel_rfl
theorem asValueOfE (n : Int) (w : World) : (ReflectliteValue.unpack (.iface 38 (.int .i64 n))).run Tryz.prog w
    = .ok (.agg #[.pointer (some ⟨4, 38, none⟩), .pointer (some ⟨w.heap.size, 0, none⟩), .int .u64 130]) (w.alloc (.cells #[.int .i64 n] 38)) := by kernel_rfl
theorem asElemOfP (w : World) : (Rtype.elem? 87).run Tryz.prog w = .ok (some 38) w := by kernel_rfl
theorem asMkE (p : Addr) (w : World) : (ReflectliteValue.mk 38 p ReflectliteValue.flagAddr).run Tryz.prog w = .ok (.agg #[.pointer (some ⟨4, 38, none⟩), .pointer (some p), .int .u64 386]) w := by kernel_rfl
theorem asElemVP (a p : Addr) (W : World) (ha : W.cell? a = some (.pointer (some p))) :
    (ReflectliteValue.method (ReflectliteValue.valueError "reflectlite.Value.Elem" 0) ReflectliteValue.elem #[.agg #[.pointer (some ⟨4, 87, none⟩), .pointer (some a), .int .u64 150]]).run Tryz.prog W
      = .ok (.agg #[.pointer (some ⟨4, 38, none⟩), .pointer (some p), .int .u64 386]) W := by
  refine Eq.trans (congrArg (fun z => Sem.run Tryz.prog z W) (show ReflectliteValue.method _ _ #[.agg #[.pointer (some ⟨4, 87, none⟩), .pointer (some a), .int .u64 150]] = _ >>= _ from rfl)) ?_
  simp only [Array.getLit, List.getElem_toArray, List.getElem_cons_zero]
  simp only [Sem.run_bind, asPartsP, Result.andThen]
  simp [ReflectliteValue.elem, loadVar, isAgg, underlying, Tryz.underlying87, ha, Result.andThen, asElemOfP, asMkE]
theorem asPartsE (a : Addr) (w : World) : (ReflectliteValue.parts (.agg #[.pointer (some ⟨4, 38, none⟩), .pointer (some a), .int .u64 386])).run Tryz.prog w = .ok (some (38, a, 386)) w := by kernel_rfl
theorem asPartsF (a : Addr) (w : World) : (ReflectliteValue.parts (.agg #[.pointer (some ⟨4, 38, none⟩), .pointer (some a), .int .u64 130])).run Tryz.prog w = .ok (some (38, a, 130)) w := by kernel_rfl
theorem asDirect (w : World) : (Rtype.directlyAssignable 38 38).run Tryz.prog w = .ok true w := by kernel_rfl
theorem asSet (ta b : Addr) (n : Int) (old : Value) (W : World) (hb : W.cell? b = some (.int .i64 n)) (ht : W.cell? ta = some old) (hf : W.frozen? ta = false) :
    (ReflectliteValue.set #[.agg #[.pointer (some ⟨4, 38, none⟩), .pointer (some ta), .int .u64 386], .agg #[.pointer (some ⟨4, 38, none⟩), .pointer (some b), .int .u64 130]]).run Tryz.prog W
      = .ok (.tuple #[]) (W.setCell ta (.int .i64 n)) := by
  refine Eq.trans (congrArg (fun z => Sem.run Tryz.prog z W) (show ReflectliteValue.set #[.agg #[.pointer (some ⟨4, 38, none⟩), .pointer (some ta), .int .u64 386], .agg #[.pointer (some ⟨4, 38, none⟩), .pointer (some b), .int .u64 130]] = _ >>= _ from rfl)) ?_
  simp only [Array.getLit, List.getElem_toArray, List.getElem_cons_zero, List.getElem_cons_succ]
  simp only [Sem.run_bind, asPartsE, asPartsF, Result.andThen]
  simp [ReflectliteValue.flagAddr, loadVar, isAgg, underlying, Tryz.underlying38, hb, Result.andThen, asDirect, storeVar, Value.cells, storeCells, Addr.add]
  rw [run_store Tryz.prog W ta _ _ (by rfl)]
  simp [ht, hf]

set_option maxHeartbeats 1600000 in
theorem as_hit (n : Int) (t : Addr) (old : Value) (w : World) (hg : w.cell? ⟨0, 0, none⟩ = some (.iface 143 (.agg #[.pointer (some ⟨4, 26, none⟩)]))) (hlt : 0 < w.heap.size) (ht0 : w.cell? t = some old) (hf0 : w.frozen? t = false) (htl : t.block < w.heap.size) :
    Calls Tryz.prog 43 #[.iface 38 (.int .i64 n), .iface 87 (.pointer (some t))] w fun ev w' => ev = .returned (.bool true) ∧ w' = ((((w.alloc (.cells #[.pointer (some t)] 87)).alloc (.cells #[.pointer (some ⟨4, 87, none⟩), .pointer (some ⟨w.heap.size, 0, none⟩), .int .u64 150] 118)).alloc (.cells #[.pointer (some ⟨4, 87, none⟩), .pointer (some ⟨w.heap.size, 0, none⟩), .int .u64 150] 118)).alloc (.cells #[.int .i64 n] 38)).setCell t (.int .i64 n) := by
  have h36 := @run_callFunc_extern Tryz.prog 76 _ (fun args => ReflectliteValue.unpack (args.getD 0 (.tuple #[]))) Tryz.func76 (by kernel_rfl) (by kernel_rfl) (by kernel_rfl) (by kernel_rfl)
  have h37 := @run_callFunc_extern Tryz.prog 77 _ (ReflectliteValue.methodAny (ReflectliteValue.valueError "reflectlite.Value.Type" 0) (fun t _ _ _ => ReflectliteType.toType t)) Tryz.func77 (by kernel_rfl) (by kernel_rfl) (by kernel_rfl) (by kernel_rfl)
  have h38 := @run_callFunc_extern Tryz.prog 78 _ (ReflectliteValue.method (ReflectliteValue.valueError "reflectlite.Value.IsNil" 0) ReflectliteValue.isNil) Tryz.func78 (by kernel_rfl) (by kernel_rfl) (by kernel_rfl) (by kernel_rfl)
  have h75 := @run_callFunc_extern Tryz.prog 154 _ (ReflectliteType.abiMethod fun t => do pure (.int .u8 (← Rtype.kind t))) Tryz.func154 (by kernel_rfl) (by kernel_rfl) (by kernel_rfl) (by kernel_rfl)
  have h90 := @run_callFunc_extern Tryz.prog 167 _ (ReflectliteType.method ReflectliteType.elem) Tryz.func167 (by kernel_rfl) (by kernel_rfl) (by kernel_rfl) (by kernel_rfl)
  have h91 := @run_callFunc_extern Tryz.prog 168 _ (ReflectliteType.relation "Implements" ReflectliteType.implements_) Tryz.func168 (by kernel_rfl) (by kernel_rfl) (by kernel_rfl) (by kernel_rfl)
  have h45 := @run_callFunc_extern Tryz.prog 101 _ ReflectliteType.typeOf Tryz.func101 (by kernel_rfl) (by kernel_rfl) (by kernel_rfl) (by kernel_rfl)
  have h88 := @run_callFunc_extern Tryz.prog 165 _ (ReflectliteType.relation "AssignableTo" ReflectliteType.assignableTo) Tryz.func165 (by kernel_rfl) (by kernel_rfl) (by kernel_rfl) (by kernel_rfl)
  have h46 := @run_callFunc_extern Tryz.prog 102 _ (ReflectliteValue.method (ReflectliteValue.valueError "reflectlite.Value.Elem" 0) ReflectliteValue.elem) Tryz.func102 (by kernel_rfl) (by kernel_rfl) (by kernel_rfl) (by kernel_rfl)
  have h47 := @run_callFunc_extern Tryz.prog 103 _ ReflectliteValue.set Tryz.func103 (by kernel_rfl) (by kernel_rfl) (by kernel_rfl) (by kernel_rfl)
  have x1 := asTypeOfE
  have x2 := asMAssign
  have x3 := asAssignE
  have x4 := asValueOfE
  have x5 := asValueOfP
  have x6 := asTypeP
  have x7 := asMKind
  have x8 := asMElem
  have x9 := asMImpl
  have y1 := asKindP
  have y2 := asKindE
  have y3 := asElemP
  have y4 := asImplE
  have y5 := asIsNilP ⟨w.heap.size, 0, none⟩ t ((w.alloc (.cells #[.pointer (some t)] 87)).alloc (.cells #[.pointer (some ⟨4, 87, none⟩), .pointer (some ⟨w.heap.size, 0, none⟩), .int .u64 150] 118)) (by simp)
  have hg2 : ((w.alloc (.cells #[.pointer (some t)] 87)).alloc (.cells #[.pointer (some ⟨4, 87, none⟩), .pointer (some ⟨w.heap.size, 0, none⟩), .int .u64 150] 118)).cell? ⟨0, 0, none⟩ = some (.iface 143 (.agg #[.pointer (some ⟨4, 26, none⟩)])) := by
    rw [World.cell?_alloc_lt _ _ ⟨0, 0, none⟩ (by first | (simp; done) | (simp; omega)), World.cell?_alloc_lt _ _ ⟨0, 0, none⟩ hlt]; exact hg
  have el := asElemVP ⟨w.heap.size, 0, none⟩ t (((w.alloc (.cells #[.pointer (some t)] 87)).alloc (.cells #[.pointer (some ⟨4, 87, none⟩), .pointer (some ⟨w.heap.size, 0, none⟩), .int .u64 150] 118)).alloc (.cells #[.pointer (some ⟨4, 87, none⟩), .pointer (some ⟨w.heap.size, 0, none⟩), .int .u64 150] 118)) (by rw [World.cell?_alloc_lt _ _ ⟨w.heap.size, 0, none⟩ (by first | (simp; done) | (simp; omega))]; simp)
  have st := asSet t ⟨w.heap.size + 1 + 1 + 1, 0, none⟩ n old ((((w.alloc (.cells #[.pointer (some t)] 87)).alloc (.cells #[.pointer (some ⟨4, 87, none⟩), .pointer (some ⟨w.heap.size, 0, none⟩), .int .u64 150] 118)).alloc (.cells #[.pointer (some ⟨4, 87, none⟩), .pointer (some ⟨w.heap.size, 0, none⟩), .int .u64 150] 118)).alloc (.cells #[.int .i64 n] 38))
    (by rw [World.cell?_alloc_at _ _ _ _ (by simp)]; rfl)
    (by rw [World.cell?_alloc_lt _ _ t (by first | (simp; done) | (simp; omega)), World.cell?_alloc_lt _ _ t (by first | (simp; done) | (simp; omega)), World.cell?_alloc_lt _ _ t (by first | (simp; done) | (simp; omega)), World.cell?_alloc_lt _ _ t htl]; exact ht0)
    (by rw [World.frozen?_alloc_old _ _ t (by first | (simp; done) | (simp; omega)), World.frozen?_alloc_old _ _ t (by first | (simp; done) | (simp; omega)), World.frozen?_alloc_old _ _ t (by first | (simp; done) | (simp; omega)), World.frozen?_alloc_old _ _ t (Nat.ne_of_lt htl)]; exact hf0)
  go_enter Tryz.func43, Tryz.ntmps43
  go_wp2
  refine wp_loop_rounds 1 ?_
  rw [rounds_succ]
  go_wp2
  go_ret
  exact ⟨rfl, rfl⟩
end Go.Proofs.YtlmfhbffknganaaGreatDoor

/- Which number an error is: of none OK, of a bare number that number. -/
namespace Go.Proofs.YtlmfhbffknganaaGreatDoor
open Go.RowKit Go.Extern.Stop Go.Stop Go.Extern

/-- The library's own variable that errors.As asks for. -/
def ErrT (w : World) : Prop := w.cell? ⟨0, 0, none⟩ = some (.iface 143 (.agg #[.pointer (some ⟨4, 26, none⟩)])) ∧ 0 < w.heap.size
theorem ErrT.below {w w' : World} (h : ErrT w) (hb : Below w.heap.size w w') : ErrT w' := by
  refine ⟨?_, Nat.lt_of_lt_of_le h.2 hb.size⟩
  rw [hb.cell (p := ⟨0, 0, none⟩) h.2]
  exact h.1

theorem tell_nil (w : World) : Calls Tryz.prog 15 #[.nilIface] w fun e w' => e = .returned (.int .i64 0) ∧ w' = w := by
  go_enter Tryz.func15, Tryz.ntmps15
  go_wp2
  go_ret
  exact ⟨rfl, rfl⟩

set_option maxHeartbeats 800000 in
theorem tell_no (n : Int) (w : World) (hg : ErrT w) : Calls Tryz.prog 15 #[.iface 38 (.int .i64 n)] w fun e w' => e = .returned (.int .i64 n) ∧ Below w.heap.size w w' := by
  have HG : Hid (ErrT w) := hg
  clear hg
  go_enter Tryz.func15, Tryz.ntmps15
  go_wp2_with fail
  refine (as_hit n ⟨w.heap.size, 0, none⟩ (.int .i64 0) _ ?_ ?_ ?_ ?_ ?_).mono ?_
  · exact (HG.out.below ((Below.refl _ _).alloc (Nat.le_refl _) _)).1
  · have := HG.out.2; first | (simp; done) | (simp; omega)
  · simp
  · simp
  · simp
  · rintro e w1 ⟨rfl, hw⟩
    have hc : w1.cell? ⟨w.heap.size, 0, none⟩ = some (.int .i64 n) := by
      rw [hw]
      refine World.cell?_setCell_same (u := .int .i64 0) _ _ _ ?_
      rw [World.cell?_alloc_lt _ _ _ (by simp; omega), World.cell?_alloc_lt _ _ _ (by simp; omega), World.cell?_alloc_lt _ _ _ (by simp; omega), World.cell?_alloc_lt _ _ _ (by simp)]
      simp
    have hb : Below w.heap.size w w1 := by
      rw [hw]
      exact (((((((Below.refl _ _).alloc (Nat.le_refl _) _).alloc (by simp) _).alloc (by simp; omega) _).alloc (by simp; omega) _).alloc (by simp; omega) _).setCell (Nat.le_refl _) _)
    clear hw
    go_wp2
    go_ret
    exact ⟨rfl, hb⟩

end Go.Proofs.YtlmfhbffknganaaGreatDoor

/- Which number an error with a place is, by errors.As: through its Unwrap. -/
namespace Go.Proofs.YtlmfhbffknganaaGreatDoor
open Go.RowKit Go.Extern.Stop Go.Stop Go.Extern

theorem atTypeOf (v : Value) (w : World) : (ReflectliteType.typeOf #[.iface 73 v]).run Tryz.prog w = .ok (.iface 143 (.agg #[.pointer (some ⟨4, 73, none⟩)])) w := by kernel_rfl
theorem atAssign (w : World) : (ReflectliteType.relation "AssignableTo" ReflectliteType.assignableTo #[.agg #[.pointer (some ⟨4, 73, none⟩)], .iface 143 (.agg #[.pointer (some ⟨4, 38, none⟩)])]).run Tryz.prog w = .ok (.bool false) w := by kernel_rfl
theorem atNoAs (v : Value) (w : World) : (Instr.typeAssert (.iface 73 v) 26 148 true).run Tryz.prog w = .ok (.tuple #[.nilIface, .bool false]) w := by
  refine run_typeAssert_lacksB Tryz.underlying148 ?_ ?_ _ _ _
  · kernel_rfl
  · kernel_rfl
theorem atUnwraps (v : Value) (w : World) : (Instr.typeAssert (.iface 73 v) 26 151 true).run Tryz.prog w = .ok (.tuple #[.iface 73 v, .bool true]) w := by
  refine run_typeAssert_hasB Tryz.underlying151 ?_ _ _ _
  kernel_rfl
theorem atMethod (p : Option Addr) (w : World) : (Go.method 301 73 (.pointer p) "Unwrap").run Tryz.prog w = .ok (160, .pointer p) w := by kernel_rfl
theorem unwrap_any (g : Nat) (n : Int) (w : World) (h : w.cell? ⟨g, 0, none⟩ = some (.int .i64 n)) :
    Calls Tryz.prog 160 #[.pointer (some ⟨g, 0, none⟩)] w fun e w' => e = .returned (.iface 38 (.int .i64 n)) ∧ w' = w := by
  go_enter Tryz.func160, Tryz.ntmps160
  go_wp2
  go_ret
  exact ⟨rfl, rfl⟩
set_option maxHeartbeats 1600000 in
theorem as_at (g : Nat) (n : Int) (t : Addr) (old : Value) (w : World) (hg : w.cell? ⟨0, 0, none⟩ = some (.iface 143 (.agg #[.pointer (some ⟨4, 26, none⟩)]))) (hlt : 0 < w.heap.size) (ht0 : w.cell? t = some old) (hf0 : w.frozen? t = false) (htl : t.block < w.heap.size) (hat : w.cell? ⟨g, 0, none⟩ = some (.int .i64 n)) (hgl : g < w.heap.size) :
    Calls Tryz.prog 43 #[.iface 73 (.pointer (some ⟨g, 0, none⟩)), .iface 87 (.pointer (some t))] w fun ev w' => ev = .returned (.bool true) ∧ w' = ((((w.alloc (.cells #[.pointer (some t)] 87)).alloc (.cells #[.pointer (some ⟨4, 87, none⟩), .pointer (some ⟨w.heap.size, 0, none⟩), .int .u64 150] 118)).alloc (.cells #[.pointer (some ⟨4, 87, none⟩), .pointer (some ⟨w.heap.size, 0, none⟩), .int .u64 150] 118)).alloc (.cells #[.int .i64 n] 38)).setCell t (.int .i64 n) := by
  have h36 := @run_callFunc_extern Tryz.prog 76 _ (fun args => ReflectliteValue.unpack (args.getD 0 (.tuple #[]))) Tryz.func76 (by kernel_rfl) (by kernel_rfl) (by kernel_rfl) (by kernel_rfl)
  have h37 := @run_callFunc_extern Tryz.prog 77 _ (ReflectliteValue.methodAny (ReflectliteValue.valueError "reflectlite.Value.Type" 0) (fun t _ _ _ => ReflectliteType.toType t)) Tryz.func77 (by kernel_rfl) (by kernel_rfl) (by kernel_rfl) (by kernel_rfl)
  have h38 := @run_callFunc_extern Tryz.prog 78 _ (ReflectliteValue.method (ReflectliteValue.valueError "reflectlite.Value.IsNil" 0) ReflectliteValue.isNil) Tryz.func78 (by kernel_rfl) (by kernel_rfl) (by kernel_rfl) (by kernel_rfl)
  have h75 := @run_callFunc_extern Tryz.prog 154 _ (ReflectliteType.abiMethod fun t => do pure (.int .u8 (← Rtype.kind t))) Tryz.func154 (by kernel_rfl) (by kernel_rfl) (by kernel_rfl) (by kernel_rfl)
  have h90 := @run_callFunc_extern Tryz.prog 167 _ (ReflectliteType.method ReflectliteType.elem) Tryz.func167 (by kernel_rfl) (by kernel_rfl) (by kernel_rfl) (by kernel_rfl)
  have h91 := @run_callFunc_extern Tryz.prog 168 _ (ReflectliteType.relation "Implements" ReflectliteType.implements_) Tryz.func168 (by kernel_rfl) (by kernel_rfl) (by kernel_rfl) (by kernel_rfl)
  have h45 := @run_callFunc_extern Tryz.prog 101 _ ReflectliteType.typeOf Tryz.func101 (by kernel_rfl) (by kernel_rfl) (by kernel_rfl) (by kernel_rfl)
  have h88 := @run_callFunc_extern Tryz.prog 165 _ (ReflectliteType.relation "AssignableTo" ReflectliteType.assignableTo) Tryz.func165 (by kernel_rfl) (by kernel_rfl) (by kernel_rfl) (by kernel_rfl)
  have h46 := @run_callFunc_extern Tryz.prog 102 _ (ReflectliteValue.method (ReflectliteValue.valueError "reflectlite.Value.Elem" 0) ReflectliteValue.elem) Tryz.func102 (by kernel_rfl) (by kernel_rfl) (by kernel_rfl) (by kernel_rfl)
  have h47 := @run_callFunc_extern Tryz.prog 103 _ ReflectliteValue.set Tryz.func103 (by kernel_rfl) (by kernel_rfl) (by kernel_rfl) (by kernel_rfl)
  have x1 := asTypeOfE
  have u1 := atTypeOf
  have u2 := atAssign
  have u3 := atNoAs
  have u4 := atUnwraps
  have u5 := atMethod
  have x2 := asMAssign
  have x3 := asAssignE
  have x4 := asValueOfE
  have x5 := asValueOfP
  have x6 := asTypeP
  have x7 := asMKind
  have x8 := asMElem
  have x9 := asMImpl
  have y1 := asKindP
  have y2 := asKindE
  have y3 := asElemP
  have y4 := asImplE
  have y5 := asIsNilP ⟨w.heap.size, 0, none⟩ t ((w.alloc (.cells #[.pointer (some t)] 87)).alloc (.cells #[.pointer (some ⟨4, 87, none⟩), .pointer (some ⟨w.heap.size, 0, none⟩), .int .u64 150] 118)) (by simp)
  have hg2 : ((w.alloc (.cells #[.pointer (some t)] 87)).alloc (.cells #[.pointer (some ⟨4, 87, none⟩), .pointer (some ⟨w.heap.size, 0, none⟩), .int .u64 150] 118)).cell? ⟨0, 0, none⟩ = some (.iface 143 (.agg #[.pointer (some ⟨4, 26, none⟩)])) := by
    rw [World.cell?_alloc_lt _ _ ⟨0, 0, none⟩ (by first | (simp; done) | (simp; omega)), World.cell?_alloc_lt _ _ ⟨0, 0, none⟩ hlt]; exact hg
  have el := asElemVP ⟨w.heap.size, 0, none⟩ t (((w.alloc (.cells #[.pointer (some t)] 87)).alloc (.cells #[.pointer (some ⟨4, 87, none⟩), .pointer (some ⟨w.heap.size, 0, none⟩), .int .u64 150] 118)).alloc (.cells #[.pointer (some ⟨4, 87, none⟩), .pointer (some ⟨w.heap.size, 0, none⟩), .int .u64 150] 118)) (by rw [World.cell?_alloc_lt _ _ ⟨w.heap.size, 0, none⟩ (by first | (simp; done) | (simp; omega))]; simp)
  have st := asSet t ⟨w.heap.size + 1 + 1 + 1, 0, none⟩ n old ((((w.alloc (.cells #[.pointer (some t)] 87)).alloc (.cells #[.pointer (some ⟨4, 87, none⟩), .pointer (some ⟨w.heap.size, 0, none⟩), .int .u64 150] 118)).alloc (.cells #[.pointer (some ⟨4, 87, none⟩), .pointer (some ⟨w.heap.size, 0, none⟩), .int .u64 150] 118)).alloc (.cells #[.int .i64 n] 38))
    (by rw [World.cell?_alloc_at _ _ _ _ (by simp)]; rfl)
    (by rw [World.cell?_alloc_lt _ _ t (by first | (simp; done) | (simp; omega)), World.cell?_alloc_lt _ _ t (by first | (simp; done) | (simp; omega)), World.cell?_alloc_lt _ _ t (by first | (simp; done) | (simp; omega)), World.cell?_alloc_lt _ _ t htl]; exact ht0)
    (by rw [World.frozen?_alloc_old _ _ t (by first | (simp; done) | (simp; omega)), World.frozen?_alloc_old _ _ t (by first | (simp; done) | (simp; omega)), World.frozen?_alloc_old _ _ t (by first | (simp; done) | (simp; omega)), World.frozen?_alloc_old _ _ t (Nat.ne_of_lt htl)]; exact hf0)
  have hat3 : (((w.alloc (.cells #[.pointer (some t)] 87)).alloc (.cells #[.pointer (some ⟨4, 87, none⟩), .pointer (some ⟨w.heap.size, 0, none⟩), .int .u64 150] 118)).alloc (.cells #[.pointer (some ⟨4, 87, none⟩), .pointer (some ⟨w.heap.size, 0, none⟩), .int .u64 150] 118)).cell? ⟨g, 0, none⟩ = some (.int .i64 n) := by
    rw [World.cell?_alloc_lt _ _ ⟨g, 0, none⟩ (by simp; omega), World.cell?_alloc_lt _ _ ⟨g, 0, none⟩ (by simp; omega), World.cell?_alloc_lt _ _ ⟨g, 0, none⟩ hgl]; exact hat
  go_enter Tryz.func43, Tryz.ntmps43
  go_wp2
  refine wp_loop_rounds 2 ?_
  rw [rounds_succ]
  go_wp2
  rw [rounds_succ]
  go_wp2
  go_ret
  exact ⟨rfl, rfl⟩
end Go.Proofs.YtlmfhbffknganaaGreatDoor

/- Which number an error with a place is. -/
namespace Go.Proofs.YtlmfhbffknganaaGreatDoor
open Go.RowKit Go.Extern.Stop Go.Stop Go.Extern

set_option maxHeartbeats 800000 in
theorem tell_at (g : Nat) (n : Int) (w : World) (hg : ErrT w) (hat : w.cell? ⟨g, 0, none⟩ = some (.int .i64 n)) (hgl : g < w.heap.size) : Calls Tryz.prog 15 #[.iface 73 (.pointer (some ⟨g, 0, none⟩))] w fun e w' => e = .returned (.int .i64 n) ∧ Below w.heap.size w w' := by
  have HG : Hid (ErrT w) := hg
  have HA : Hid (w.cell? ⟨g, 0, none⟩ = some (.int .i64 n)) := hat
  clear hg hat
  go_enter Tryz.func15, Tryz.ntmps15
  go_wp2_with fail
  refine (as_at g n ⟨w.heap.size, 0, none⟩ (.int .i64 0) _ ?_ ?_ ?_ ?_ ?_ ?_ ?_).mono ?_
  · exact (HG.out.below ((Below.refl _ _).alloc (Nat.le_refl _) _)).1
  · have := HG.out.2; first | (simp; done) | (simp; omega)
  · simp
  · simp
  · simp
  · rw [World.cell?_alloc_lt _ _ ⟨g, 0, none⟩ hgl]; exact HA
  · simp; omega
  · rintro e w1 ⟨rfl, hw⟩
    have hc : w1.cell? ⟨w.heap.size, 0, none⟩ = some (.int .i64 n) := by
      rw [hw]
      refine World.cell?_setCell_same (u := .int .i64 0) _ _ _ ?_
      rw [World.cell?_alloc_lt _ _ _ (by simp; omega), World.cell?_alloc_lt _ _ _ (by simp; omega), World.cell?_alloc_lt _ _ _ (by simp; omega), World.cell?_alloc_lt _ _ _ (by simp)]
      simp
    have hb : Below w.heap.size w w1 := by
      rw [hw]
      exact (((((((Below.refl _ _).alloc (Nat.le_refl _) _).alloc (by simp) _).alloc (by simp; omega) _).alloc (by simp; omega) _).alloc (by simp; omega) _).setCell (Nat.le_refl _) _)
    clear hw
    go_wp2
    go_ret
    exact ⟨rfl, hb⟩
end Go.Proofs.YtlmfhbffknganaaGreatDoor

/- The law AskGaps, walked. -/
namespace Go.Proofs.YtlmfhbffknganaaGreatDoor
open Go.RowKit

theorem rep_gap (l : List UInt8) (ht : l.all gapB = true) : ∀ k, (Lib.repeatL l k).all gapB = true
  | 0 => rfl
  | k + 1 => by rw [Lib.repeatL, List.all_append, ht, rep_gap l ht k]; rfl
theorem rep_long (l : List UInt8) : ∀ k, (Lib.repeatL l k).length = k * l.length
  | 0 => by simp [Lib.repeatL]
  | k + 1 => by rw [Lib.repeatL, List.length_append, rep_long l k, Nat.succ_mul]; omega
theorem repeat_any (t : ByteArray) (ht : t.data.toList.all gapB = true) (h3 : t.size ≤ 3) (k : Nat) (hk : k < 4) : ∃ o : ByteArray, o.data.toList.all gapB = true ∧ o.size ≤ 9 ∧
    ∀ w, Calls Tryz.prog 13 #[.string t, .int .i64 (k : Int)] w fun e w' => e = .returned (.string o) ∧ Below w.heap.size w w' := by
  have hkt : k * t.size ≤ 3 * 3 := Nat.mul_le_mul (by omega) h3
  refine ⟨⟨(Lib.repeatL t.data.toList k).toArray⟩, rep_gap _ ht k, ?_, fun w => ?_⟩
  · have e : (⟨(Lib.repeatL t.data.toList k).toArray⟩ : ByteArray).size = (Lib.repeatL t.data.toList k).length := rfl
    rw [e, rep_long, len_data]
    omega
  · exact Any.strings_Repeat lays105 Builder_Extra_105 t k w (by omega) (by rw [Nat.mul_comm]; omega)
theorem pick_four (n : Int) (h0 : -9223372036854775808 ≤ n) (h1 : n ≤ 9223372036854775807) : ∃ k : Nat, k < 4 ∧ ∀ w, Calls Tryz.prog 14 #[.int .i64 n, .int .i64 4] w fun e w' => e = .returned (.int .i64 (k : Int)) ∧ w' = w := by
  have h := pickI_in n 4 (by decide)
  refine ⟨(pickI n 4).toNat, by omega, fun w => ?_⟩
  rw [Int.toNat_of_nonneg h.1]
  exact pick_any n 4 h0 h1 (by decide) (by decide) w
theorem chals_none (w : World) : Chals w none 0 0 0 [] := ⟨rfl, fun h => absurd h (by omega), fun j c h => by simp at h, fun j c h => by simp at h, fun j c h => by simp at h, fun c h => by cases h⟩
theorem slight_on {cs ds : List ChV} (hx : xsOf ds = xsOf cs) (h : ∀ c ∈ cs, Slight c) : ∀ d ∈ ds, d.len ≤ 1000000 := fun d hd => by
  have : d.x ∈ xsOf cs := by rw [← hx]; exact List.mem_map.2 ⟨d, hd, rfl⟩
  obtain ⟨c, hc, e⟩ := List.mem_map.1 this
  have := (h c hc).1.1
  show d.x.params.length ≤ _
  rw [← e]
  omega
set_option maxRecDepth 100000 in
set_option maxHeartbeats 4000000 in
theorem askGaps_walk (s : ByteArray) (_hs : s.size ≤ 140737488355328) (n : Int) (hn0 : -9223372036854775808 ≤ n) (hn1 : n ≤ 9223372036854775807) (m : Int) (hm0 : -9223372036854775808 ≤ m) (hm1 : m ≤ 9223372036854775807) (w : World) (hg : ErrT w) :
    Calls Tryz.prog 4 #[.string s, .int .i64 n, .int .i64 m] w fun e w' => e = .returned (.bool true) ∧ Below w.heap.size w w' := by
  have HG : Hid (ErrT w) := hg
  clear hg
  obtain ⟨k, hk, pk⟩ := pick_four n hn0 hn1
  obtain ⟨o, og, oz, ro⟩ := repeat_any ⟨#[44, 32, 9]⟩ rfl (by decide) k hk
  obtain ⟨j, hj, pj⟩ := pick_four m hm0 hm1
  obtain ⟨z, zg, zz, rz⟩ := repeat_any ⟨#[32, 44]⟩ rfl (by decide) j hj
  have HA : Hid (askL (o ++ s).data.toList = askL s.data.toList) := by
    show _ = _
    have e : (o ++ s).data.toList = o.data.toList ++ s.data.toList := by simp
    rw [e, ask_ahead _ _ og]
  have HZ : Hid (∀ xs, askL s.data.toList = .ok xs → askL (s ++ z).data.toList = .ok xs) := fun xs h => by
    have e : (s ++ z).data.toList = s.data.toList ++ z.data.toList := by simp
    rw [e]
    exact ask_behind zg h
  clear og zg
  go_enter Tryz.func4, Tryz.ntmps4
  go_wp2_with fail
  refine (asked_any _).mono ?_
  rintro e w1 ⟨rfl, hb1⟩
  by_cases h400 : (400 : Int) < (s.size : Int)
  · go_wp2
    go_ret
    exact ⟨rfl, hb1⟩
  · have hs3 : s.size ≤ 400 := by omega
    have hs1 : (o ++ s).size ≤ 3000 := by rw [ByteArray.size_append]; omega
    have hs2 : (s ++ z).size ≤ 3000 := by rw [ByteArray.size_append]; omega
    have HB1 : Hid (Below w.heap.size w w1) := hb1
    clear hb1
    go_wp2_with fail
    refine (parse_any s (by omega) _).mono ?_
    rintro e w2 ⟨⟨cs, v, h1, h2, h3, rfl, hown⟩ | ⟨n1, left, v, h1, rfl, hat⟩, hb2⟩
    · obtain ⟨a, cap, g, ds, rfl, hC, hx, _, _⟩ := hown.chals
      have HB2 : Hid (Below w.heap.size w w2) := HB1.out.trans (hb2.mono HB1.out.size)
      have HSL : Hid (∀ d ∈ ds, d.len ≤ 1000000) := slight_on hx h3
      obtain ⟨nn, HNN⟩ : ∃ nn, Hid (cs.length = nn) := ⟨_, rfl⟩
      rw [HNN.out] at hC ⊢
      have hn8 : nn ≤ 8 := by rw [← HNN.out]; exact h2
      have HC : Hid (Chals w2 a nn g 0 ds) := hC
      have HK : Hid (askL s.data.toList = .ok (xsOf ds)) := by show _ = _; rw [h1, hx]
      clear h1 h2 h3 hown hC hx hb2
      go_wp2_with fail
      refine (pk _).mono ?_
      rintro e w3 ⟨rfl, hw⟩
      obtain rfl := hw.symm
      clear hw
      go_wp2_with fail
      refine (ro _).mono ?_
      rintro e w4 ⟨rfl, hb4⟩
      have HB4 : Hid (Below w.heap.size w w4 ∧ Chals w4 a nn g 0 ds) := ⟨HB2.out.trans (hb4.mono HB2.out.size), HC.out.below hb4⟩
      clear hb4
      go_wp2_with fail
      refine (parse_any (o ++ s) hs1 _).mono ?_
      rintro e w5 ⟨⟨cs2, v2, k1, k2, k3, rfl, hown2⟩ | ⟨n2, left2, v2, k1, _⟩, hb5⟩
      · obtain ⟨a2, cap2, g2, ds2, rfl, hC2, hx2, _, _⟩ := hown2.chals
        have hxx : xsOf ds = xsOf ds2 := by
          have := HA.out
          rw [k1, HK.out] at this
          rw [hx2]
          exact (Except.ok.inj this).symm
        have hll : cs2.length = nn := by
          have e1 := congrArg List.length hxx
          rw [xsOf_len, xsOf_len] at e1
          have e2 := hC2.len_eq
          have e3 := HB4.out.2.len_eq
          omega
        rw [hll] at hC2 ⊢
        have HC5 : Hid (Chals w5 a nn g 0 ds) := HB4.out.2.below hb5
        have heq := equalC_yes ds ds2 hxx HSL.out a a2 nn cap cap2 g 0 g2 0 (by omega) w5 HC5.out hC2
        have HB5 : Hid (Below w.heap.size w w5) := HB4.out.1.trans (hb5.mono HB4.out.1.size)
        clear k1 k2 k3 hown2 hC2 hx2 hxx hll hb5
        go_wp2_with fail
        refine (tell_nil _).mono ?_
        rintro e w6 ⟨rfl, hw⟩
        obtain rfl := hw.symm
        clear hw
        go_wp2_with fail
        refine (tell_nil _).mono ?_
        rintro e w6 ⟨rfl, hw⟩
        obtain rfl := hw.symm
        clear hw
        go_wp2_with fail
        refine heq.mono ?_
        rintro e w6 ⟨rfl, hb6⟩
        have HB6 : Hid (Below w.heap.size w w6 ∧ Chals w6 a nn g 0 ds) := ⟨HB5.out.trans (hb6.mono HB5.out.size), HC5.out.below hb6⟩
        clear hb6 heq
        go_wp2_with fail
        refine (pj _).mono ?_
        rintro e w7 ⟨rfl, hw⟩
        obtain rfl := hw.symm
        clear hw
        go_wp2_with fail
        refine (rz _).mono ?_
        rintro e w8 ⟨rfl, hb8⟩
        have HB8 : Hid (Below w.heap.size w w8 ∧ Chals w8 a nn g 0 ds) := ⟨HB6.out.1.trans (hb8.mono HB6.out.1.size), HB6.out.2.below hb8⟩
        clear hb8
        go_wp2_with fail
        refine (parse_any (s ++ z) hs2 _).mono ?_
        rintro e w9 ⟨⟨cs3, v3, k1, k2, k3, rfl, hown3⟩ | ⟨n3, left3, v3, k1, _⟩, hb9⟩
        · obtain ⟨a3, cap3, g3, ds3, rfl, hC3, hx3, _, _⟩ := hown3.chals
          have hxx : xsOf ds = xsOf ds3 := by
            have := HZ.out _ HK.out
            rw [k1] at this
            rw [hx3]
            exact (Except.ok.inj this).symm
          have hll : cs3.length = nn := by
            have e1 := congrArg List.length hxx
            rw [xsOf_len, xsOf_len] at e1
            have e2 := hC3.len_eq
            have e3 := HB8.out.2.len_eq
            omega
          rw [hll] at hC3 ⊢
          have heq := equalC_yes ds ds3 hxx HSL.out a a3 nn cap cap3 g 0 g3 0 (by omega) w9 (HB8.out.2.below hb9) hC3
          have HB9 : Hid (Below w.heap.size w w9) := HB8.out.1.trans (hb9.mono HB8.out.1.size)
          clear k1 k2 k3 hown3 hC3 hx3 hxx hll hb9
          go_wp2_with fail
          refine heq.mono ?_
          rintro e w10 ⟨rfl, hb10⟩
          clear heq
          go_wp2
          go_ret
          exact ⟨rfl, HB9.out.trans (hb10.mono HB9.out.size)⟩
        · have := HZ.out _ HK.out
          rw [k1] at this
          cases this
      · have := HA.out
        rw [k1, HK.out] at this
        cases this
    · have HB2 : Hid (Below w.heap.size w w2) := HB1.out.trans (hb2.mono HB1.out.size)
      have HAT : Hid (IsAt w2 v (w1.heap.size + 1) n1 ((s.size - left : Nat) : Int)) := hat
      have HK : Hid (askL s.data.toList = .error (n1, left)) := h1
      obtain ⟨eg, rfl, _, _, _, _⟩ := hat
      clear h1 hb2
      go_wp2_with fail
      refine (pk _).mono ?_
      rintro e w3 ⟨rfl, hw⟩
      obtain rfl := hw.symm
      clear hw
      go_wp2_with fail
      refine (ro _).mono ?_
      rintro e w4 ⟨rfl, hb4⟩
      have HB4 : Hid (Below w.heap.size w w4 ∧ IsAt w4 (.iface 73 (.pointer (some ⟨eg, 0, none⟩))) (w1.heap.size + 1) n1 ((s.size - left : Nat) : Int)) := ⟨HB2.out.trans (hb4.mono HB2.out.size), HAT.out.below hb4⟩
      clear hb4
      go_wp2_with fail
      refine (parse_any (o ++ s) hs1 _).mono ?_
      rintro e w5 ⟨⟨cs2, v2, k1, k2, k3, rfl, hown2⟩ | ⟨n2, left2, v2, k1, rfl, hat2⟩, hb5⟩
      · have := HA.out
        rw [k1, HK.out] at this
        cases this
      · have HB5 : Hid (Below w.heap.size w w5) := HB4.out.1.trans (hb5.mono HB4.out.1.size)
        obtain ⟨eg', he, c0, _, _, cl⟩ := HB4.out.2.below hb5
        cases he
        obtain ⟨f, rfl, d0, _, _, dl⟩ := hat2
        have h12 : n1 = n2 := by
          have := HA.out
          rw [k1, HK.out] at this
          cases this
          rfl
        subst h12
        obtain ⟨N, HN⟩ : ∃ N : Int, Hid ((n1 : Int) = N) := ⟨_, rfl⟩
        rw [HN.out] at c0 d0
        have HD : Hid (w5.cell? ⟨f, 0, none⟩ = some (.int .i64 N)) := d0
        have HL : Hid (f < w5.heap.size) := dl
        have HT1 := tell_at eg N w5 (HG.out.below HB5.out) c0 cl
        clear k1 hb5 c0 cl d0 dl
        have hNN : (N == N) = true := by simp
        go_wp2_with fail
        refine HT1.mono ?_
        rintro e w6 ⟨rfl, hb6⟩
        have HB6 : Hid (Below w.heap.size w w6) := HB5.out.trans (hb6.mono HB5.out.size)
        have HT2 := tell_at f N w6 (HG.out.below HB6.out) ((hb6.cell (p := ⟨f, 0, none⟩) HL.out).trans HD.out) (Nat.lt_of_lt_of_le HL.out hb6.size)
        clear hb6 HT1
        go_wp2_with fail
        refine HT2.mono ?_
        rintro e w7 ⟨rfl, hb7⟩
        have HB7 : Hid (Below w.heap.size w w7) := HB6.out.trans (hb7.mono HB6.out.size)
        clear hb7 HT2
        go_wp2_with fail
        refine (equalC_yes [] [] rfl (fun c h => by cases h) none none 0 0 0 0 0 0 0 (by omega) _ (chals_none _) (chals_none _)).mono ?_
        rintro e w8 ⟨rfl, hb8⟩
        go_wp2
        go_ret
        exact ⟨rfl, HB7.out.trans (hb8.mono HB7.out.size)⟩
end Go.Proofs.YtlmfhbffknganaaGreatDoor

/- What the row lays of the library's own variable is what errors.As asks for. -/
namespace Go.Proofs.YtlmfhbffknganaaGreatDoor
open Go.RowKit

theorem etAt : Tryz.prog.globalNamed "errors.errorType" = some 0 := by kernel_rfl
theorem rtAt : (Tryz.prog.cutTypes.find? (·.1 == "internal/reflectlite.rtype")).map (·.2) = some 143 := by kernel_rfl
theorem oneError : ((List.range Tryz.prog.types.size).filter fun t => Tryz.prog.rowNamed t [101, 114, 114, 111, 114]) = [26] := by kernel_rfl
theorem errT_of_handles {W : World} (h : handlesMet Tryz.prog [("errors.errorType", Rows.laid_errors_errorType)] W) : ErrT W := by
  obtain ⟨name, u, ty, e1, e2, e3, e4, e5⟩ := h _ (List.mem_singleton.2 rfl)
  have en : name = [101, 114, 114, 111, 114] := (Option.some.inj e1).symm
  subst en
  obtain rfl := Option.some.inj (rtAt.symm.trans e2)
  have hm : ty ∈ (List.range Tryz.prog.types.size).filter fun t => Tryz.prog.rowNamed t [101, 114, 114, 111, 114] := List.mem_filter.2 ⟨List.mem_range.2 e3, e4⟩
  rw [oneError] at hm
  obtain rfl := List.mem_singleton.1 hm
  have hh : typeHandle Tryz.prog 26 = .pointer (some ⟨4, 26, none⟩) := by kernel_rfl
  rw [hh] at e5
  have hc : W.cell? ⟨0, 0, none⟩ = some (.iface 143 (.agg #[.pointer (some ⟨4, 26, none⟩)])) := by
    simpa using World.var?_cell etAt e5 0
  refine ⟨hc, ?_⟩
  rcases Nat.lt_or_ge 0 W.heap.size with h | h
  · exact h
  · simp [World.cell?, Array.getElem?_eq_none h] at hc
end Go.Proofs.YtlmfhbffknganaaGreatDoor

/- The library's contracts that are leant on, laid at this program's numbers. -/
namespace Go.Proofs.YtlmfhbffknganaaGreatDoor
open Go.Shelf Go.RowKit
def laysM143_ren : Go.Shelf.Ren := ⟨fun | 143 => 131 | 219 => 137 | 217 => 104 | 225 => 128 | 224 => 127 | 267 => 138 | 266 => 119 | 314 => 139 | n => n, fun | 9 => 9 | 3 => 3 | 4 => 4 | 5 => 5 | 46 => 82 | 146 => 110 | 51 => 109 | n => n, fun | 1 => 1 | n => n⟩
theorem laysM143 : Go.Proofs.LaysM.n143 Tryz.prog laysM143_ren := {
  mixed := by kernel_rfl
  f143 := Tryz.func131.trans (congrArg some (by kernel_rfl))
  f217 := Tryz.func104.trans (congrArg some (by kernel_rfl))
  f219 := Tryz.func137.trans (congrArg some (by kernel_rfl))
  f224 := Tryz.func127.trans (congrArg some (by kernel_rfl))
  f225 := Tryz.func128.trans (congrArg some (by kernel_rfl))
  f266 := Tryz.func119.trans (congrArg some (by kernel_rfl))
  f267 := Tryz.func138.trans (congrArg some (by kernel_rfl))
  f314 := Tryz.func139.trans (congrArg some (by kernel_rfl))
  t3 := Tryz.underlying3
  a3 := Tryz.isAgg3
  z3 := Tryz.sizeOf3
  v3 := Tryz.zeroValue3
  t4 := Tryz.underlying4
  a4 := Tryz.isAgg4
  z4 := Tryz.sizeOf4
  v4 := Tryz.zeroValue4
  t5 := Tryz.underlying5
  a5 := Tryz.isAgg5
  z5 := Tryz.sizeOf5
  v5 := Tryz.zeroValue5
  t9 := Tryz.underlying9
  a9 := Tryz.isAgg9
  z9 := Tryz.sizeOf9
  v9 := Tryz.zeroValue9
  t46 := Tryz.underlying82
  a46 := Tryz.isAgg82
  z46 := Tryz.sizeOf82
  v46 := Tryz.zeroValue82
  t51 := Tryz.underlying109
  a51 := Tryz.isAgg109
  z51 := Tryz.sizeOf109
  v51 := Tryz.zeroValue109
  t146 := Tryz.underlying110
  a146 := Tryz.isAgg110
  z146 := Tryz.sizeOf110
  v146 := Tryz.zeroValue110
  g1 := by kernel_rfl
  i3 := by kernel_rfl
  i4 := by kernel_rfl
  i5 := by kernel_rfl
  i9 := by kernel_rfl
  i46 := by kernel_rfl
  i51 := by kernel_rfl
  i146 := by kernel_rfl
  m1 := by kernel_rfl
  s1_3 := fun w h => Go.Proofs.cell_of_shapedOpen_int (zero := #[.int .i64 0]) (t := 3) h (of_decide_eq_true (by kernel_rfl)) (by kernel_rfl) rfl (by kernel_rfl) (by kernel_rfl) Tryz.underlying3 }
end Go.Proofs.YtlmfhbffknganaaGreatDoor

/- Where a text begins in another one, by the library: its own bound is read from the world's shape, and is of no account. -/
namespace Go.Proofs.YtlmfhbffknganaaGreatDoor
open Go.RowKit Go.Shelf

/-- The library's own bound, whatever it is. -/
def MaxL (w : World) : Prop := (∃ m : Int, w.cell? ⟨1, 0, none⟩ = some (.int .i64 m)) ∧ 1 < w.heap.size
theorem MaxL.below {w w' : World} (h : MaxL w) (hb : Below w.heap.size w w') : MaxL w' := by
  obtain ⟨⟨m, hm⟩, hl⟩ := h
  exact ⟨⟨m, (hb.cell (p := ⟨1, 0, none⟩) hl).trans hm⟩, Nat.lt_of_lt_of_le hl hb.size⟩
theorem index_any (s sub : ByteArray) (hs : s.size ≤ 20000) (w : World) (h : MaxL w) :
    Calls Tryz.prog 131 #[.string s, .string sub] w fun e w' => e = .returned (.int .i64 (Lib.index s.data.toList sub.data.toList)) ∧ w' = w := by
  obtain ⟨⟨m, hm⟩, _⟩ := h
  exact Any.strings_Index { laysM143 with } s sub m w (by omega) hm
theorem maxL_of_shape {W : World} (h : W.ShapedOpen Tryz.prog) : MaxL W := by
  obtain ⟨m, hm⟩ := laysM143.s1_3 W h
  refine ⟨⟨m, hm⟩, ?_⟩
  have hm' : W.cell? ⟨1, 0, none⟩ = some (.int .i64 m) := hm
  rcases Nat.lt_or_ge 1 W.heap.size with h | h
  · exact h
  · simp [World.cell?, Array.getElem?_eq_none h] at hm'
end Go.Proofs.YtlmfhbffknganaaGreatDoor

/- A tied card whose walk wants the world's shape (the cell of a variable that no row lays), and a witness that has a pinned table beside a handle: the door's world, with the tables laid in it. -/
namespace Go.Proofs.YtlmfhbffknganaaGreatDoor

section
variable {H : Type} {enc : TypeId × Value → H}
theorem handed_shaped {a : Assume} {C : Checked} {os : Os} {f : FuncId} {fn : Func} {s : ChangeSpec} {conds : List PathCond} {apart fresh handsOn again : Bool} {X : World → Array Value → Prop}
    (hX : ∀ (w w' : World) (args : Array Value), w.heap = w'.heap → X w args → X w' args)
    (own : ownKnob C.prog.godebug = none) (started : os.Started) (noInit : C.prog.inits.idxOf? f = none) (hfn : C.prog.funcs[f]? = some fn)
    (witness : ∃ (w : World) (tape : Tape) (i : Input), w.os = os ∧ (w.forCall tape i).Shaped C.prog ∧ i.vars = [] ∧ Input.okWide C.prog (w.forCall tape i) .any w.heap.size f i ∧
      ((s.pre enc C.prog fn conds apart (w.forCall tape i).memory i.args ∧ X (w.forCall tape i).memory i.args) ∧ sizedMet enc C.prog fn (OpenSpec.ofChange s) apart (w.forCall tape i).memory i.args) ∧ a.holds C.prog (lone (Frame.enter C.prog f i.args .normal) [] (w.forCall tape i)))
    (walk : ∀ (W : World) (base : Nat) (args : Array Value) (ds gs : List (DataW H)) (before : List MemPlace), W.ShapedOpen C.prog →
      (∀ (j : Nat) t v, fn.params[j]? = some t → args[j]? = some v → Value.okWide C.prog W .any base t v) →
      DataW.Whole enc C.prog fn.params.toList s.vars apart W args.toList ds gs before →
      (DataW.weightsEach C.prog (fn.params.toList ++ s.plain.varTypes C.prog) (ds ++ gs)).all (· ≤ reachBytes) = true → X W args →
      Calls C.prog f args W fun e W' => ∃ v, e = .returned v ∧ s.post enc C.prog fn apart fresh handsOn again W args v W') :
    ReturnsInHanded a C os f .any (fun w args => (s.pre enc C.prog fn conds apart w args ∧ X w args) ∧ sizedMet enc C.prog fn (OpenSpec.ofChange s) apart w args) (s.post enc C.prog fn apart fresh handsOn again) :=
  returnsInHanded_of_calls own started noInit witness fun w tape i _ hsh _ ⟨_, _, _, _, hf', _, _, _, _, hval⟩ ⟨⟨⟨ds, gs, before, hw, _⟩, hx⟩, hz⟩ _ => by
    cases Option.some.inj (hf'.symm.trans hfn)
    exact (walk (w.forCall tape i) w.heap.size i.args ds gs before hsh hval (DataW.Whole.of_heap (w := (w.forCall tape i).memory) (w' := w.forCall tape i) rfl hw) (hz.weights hw) (hX (w.forCall tape i).memory _ _ rfl hx)).mono
      fun e W' ⟨v, he, hp⟩ => by cases he; exact ChangeSpec.post_blind hp
end

theorem laidMet_layOn {P : Program} {w0 : World} {laid : List (String × DataW Unit)} (args : Array Value) (hf : w0.layFits P laid [] = true) (hi : w0.layIfaces P laid (w0.layVars P laid) = true) :
    laidMet P laid ((w0.layVars P laid).forCall (fun _ _ => 0) ⟨#[], args, []⟩).memory := by
  have e1 : (laid.filter fun x => (laid.map (·.1)).contains x.1) = laid := List.filter_eq_self.2 fun x hx => List.contains_iff_mem.2 (List.mem_map.2 ⟨x, hx, rfl⟩)
  have e2 : (laid.filter fun x => !(laid.map (·.1)).contains x.1) = [] := List.filter_eq_nil_iff.2 fun x hx => by rw [List.contains_iff_mem.2 (List.mem_map.2 ⟨x, hx, rfl⟩)]; simp
  have h : laidMet P laid (w0.layVars P laid) := laidMet_layVars (w0 := w0) (laid.map (·.1)) [] (by rw [e1]) (by rw [e1]; exact hf) (by rw [e1]; exact hi) (by rw [e2]; exact LaidIn.none)
  exact h.of_heap (by simp [World.memory, World.forCall, Input.heap])

end Go.Proofs.YtlmfhbffknganaaGreatDoor
