/- Challenges that are read can be written, over lists of bytes. -/
import Derived.Test.YteldgpkkgnfiaabDoorAkR
namespace Go.Proofs.YteldgpkkgnfiaabDoor

theorem unq_text : ∀ (l : List UInt8) (e : Bool) (t : List UInt8) (n : Nat), unqL e l = some (t, n) → t.all textB = true
  | [], e, t, n, h => by cases h
  | c :: r, e, t, n, h => by
    rw [unqL] at h
    by_cases hc : textB c = false
    · rw [if_pos hc] at h; cases h
    · rw [if_neg hc] at h
      have hc' : textB c = true := by simpa using hc
      cases e
      · simp only [Bool.false_eq_true, if_false] at h
        by_cases h34 : c = 34
        · rw [if_pos h34] at h
          cases h
          rfl
        · rw [if_neg h34] at h
          by_cases h92 : c = 92
          · rw [if_pos h92] at h
            obtain ⟨⟨a, b⟩, h1, h2⟩ := Option.map_eq_some_iff.1 h
            simp only [Prod.mk.injEq] at h2
            rw [← h2.1]
            exact unq_text r true a b h1
          · rw [if_neg h92] at h
            obtain ⟨⟨a, b⟩, h1, h2⟩ := Option.map_eq_some_iff.1 h
            simp only [Prod.mk.injEq] at h2
            rw [← h2.1, List.all_cons, hc', unq_text r false a b h1]
            rfl
      · simp only [if_true] at h
        obtain ⟨⟨a, b⟩, h1, h2⟩ := Option.map_eq_some_iff.1 h
        simp only [Prod.mk.injEq] at h2
        rw [← h2.1, List.all_cons, hc', unq_text r false a b h1]
        rfl
theorem quoted_text {l t : List UInt8} {n : Nat} (h : quotedL l = some (t, n)) : t.all textB = true := by
  cases l with
  | nil => cases h
  | cons c r =>
    rw [quotedL] at h
    by_cases hc : c = 34
    · rw [if_pos hc] at h
      obtain ⟨⟨a, b⟩, h1, h2⟩ := Option.map_eq_some_iff.1 h
      simp only [Prod.mk.injEq] at h2
      rw [← h2.1]
      exact unq_text r false a b h1
    · rw [if_neg hc] at h
      cases h
theorem tw_isL {r : List UInt8} (h : r.takeWhile tokB ≠ []) : isL (r.takeWhile tokB) = true := by
  unfold isL
  rw [Bool.and_eq_true]
  refine ⟨?_, List.all_takeWhile⟩
  cases hr : r.takeWhile tokB with
  | nil => exact absurd hr h
  | cons c t => rfl
theorem name_word {r t : List UInt8} {n : ByteArray} (h : nameL r = some (n, t)) : isL n.data.toList = true := by
  unfold nameL at h
  split at h
  · cases h
  · rename_i h0
    obtain ⟨u, _, e⟩ := Option.map_eq_some_iff.1 h
    simp only [Prod.mk.injEq] at e
    rw [← e.1, bs_data]
    exact tw_isL h0
theorem value_ok {r u : List UInt8} {v : ByteArray} (h : valueL r = some (v, u)) : ∃ t, valueO v.data.toList = some t := by
  unfold valueL at h
  split at h
  · obtain ⟨⟨a, b⟩, h1, e⟩ := Option.map_eq_some_iff.1 h
    simp only [Prod.mk.injEq] at e
    rw [← e.1, bs_data]
    unfold valueO
    split
    · exact ⟨_, rfl⟩
    · unfold quoteO
      rw [if_pos (quoted_text h1)]
      exact ⟨_, rfl⟩
  · rename_i h0
    cases h
    rw [bs_data]
    unfold valueO
    rw [if_pos (tw_isL h0)]
    exact ⟨_, rfl⟩
/-- Parameters as they are read. -/
def ParsOk (ps : List Par) : Prop := (∀ q ∈ ps, isL q.1.data.toList = true ∧ ∃ t, valueO q.2.data.toList = some t) ∧ Unlike [] ps ∧ ps.length ≤ 16
theorem unlike_snoc : ∀ (l a : List Par) (p : Par), Unlike a l → toldL (a ++ l) p.1 = false → Unlike a (l ++ [p])
  | [], a, p, _, h => ⟨by simpa using h, trivial⟩
  | q :: r, a, p, hu, h => ⟨hu.1, unlike_snoc r (a ++ [q]) p hu.2 (by simpa using h)⟩
theorem param_ok {acc : List Par} {r u : List UInt8} {p : Par} (h : paramL acc r = .ok (p, u)) (ha : ParsOk acc) : ParsOk (acc ++ [p]) := by
  unfold paramL at h
  rcases hn : nameL r with _ | ⟨n, t⟩
  · rw [hn] at h; cases h
  · rw [hn] at h
    rcases hv : valueL (t.dropWhile blankB) with _ | ⟨v, u'⟩
    · simp only [hv] at h; cases h
    · simp only [hv] at h
      by_cases ht : toldL acc n = true
      · rw [if_pos ht] at h; cases h
      · rw [if_neg ht] at h
        by_cases h16 : 16 ≤ acc.length
        · rw [if_pos h16] at h; cases h
        · rw [if_neg h16] at h
          cases h
          refine ⟨fun q hq => ?_, unlike_snoc acc [] _ ha.2.1 (by simpa using ht), by simp; omega⟩
          rcases List.mem_append.1 hq with hq | hq
          · exact ha.1 q hq
          · rw [List.mem_singleton.1 hq]
            exact ⟨name_word hn, value_ok hv⟩
theorem params_ok : ∀ (f : Nat) (acc : List Par) (r : List UInt8) (ps : List Par) (u : List UInt8), paramsL f acc r = .ok (ps, u) → ParsOk acc → ParsOk ps
  | 0, acc, r, ps, u, h, _ => by cases h
  | f + 1, acc, r, ps, u, h, ha => by
    unfold paramsL at h
    rcases hp : paramL acc r with e | ⟨p, v⟩
    · rw [hp] at h; cases h
    · rw [hp] at h
      have h1 := param_ok hp ha
      simp only at h
      split at h
      · split at h
        · exact params_ok f _ _ _ _ h h1
        · cases h
          exact h1
      · cases h
theorem take_pre {l a b : List UInt8} (h : l = a ++ b) : l.take a.length = a := by rw [h, List.take_left]
theorem token_ok {r u : List UInt8} {t : ByteArray} (h : tokenL r = some (t, u)) : TokOk t.data.toList := by
  unfold tokenL at h
  split at h
  · rename_i h0
    cases h
    rw [bs_data]
    refine ⟨r.takeWhile tkB, (r.dropWhile tkB).takeWhile eqB, ?_, ?_, List.all_takeWhile, List.all_takeWhile⟩
    · have e1 : r = r.takeWhile tkB ++ ((r.dropWhile tkB).takeWhile eqB ++ (r.dropWhile tkB).dropWhile eqB) := by rw [List.takeWhile_append_dropWhile, List.takeWhile_append_dropWhile]
      have e2 : r.length - ((r.dropWhile tkB).dropWhile eqB).length = (r.takeWhile tkB ++ (r.dropWhile tkB).takeWhile eqB).length := by
        have := congrArg List.length e1
        simp only [List.length_append] at this ⊢
        omega
      rw [e2]
      exact take_pre (e1.trans (List.append_assoc _ _ _).symm)
    · intro e
      have := dw_tw tkB r
      rw [e] at this
      have h1 := h0.1
      simp at this
      omega
  · cases h
/-- A challenge as it is read. -/
def Read (x : Chal) : Prop := Good x ∧ ∀ q ∈ x.params, ∃ t, valueO q.2.data.toList = some t
theorem parsOk_nil : ParsOk [] := ⟨fun q hq => (by cases hq), trivial, by simp⟩
theorem chal_read {a : Nat} {r u : List UInt8} {x : Chal} (h : chalL a r = .ok (x, u)) : Read x := by
  unfold chalL at h
  split at h
  · cases h
  · rename_i h0
    have hw : isL (bs (r.takeWhile tokB)).data.toList = true := by rw [bs_data]; exact tw_isL h0
    split at h
    · cases h
    · split at h
      · cases h
        exact ⟨⟨hw, .inl rfl, fun q hq => (by cases hq), trivial, by simp⟩, fun q hq => by cases hq⟩
      · split at h
        · cases h
        · unfold insideL at h
          rcases ht : tokenL ((r.dropWhile tokB).dropWhile blankB) with _ | ⟨t, v⟩
          · rw [ht] at h
            simp only at h
            rcases hp : paramsL (((r.dropWhile tokB).dropWhile blankB).length + 1) [] ((r.dropWhile tokB).dropWhile blankB) with e | ⟨ps, v⟩
            · rw [hp] at h; cases h
            · rw [hp] at h
              cases h
              obtain ⟨k1, k2, k3⟩ := params_ok _ _ _ _ _ hp parsOk_nil
              exact ⟨⟨hw, .inl rfl, fun q hq => (k1 q hq).1, k2, k3⟩, fun q hq => (k1 q hq).2⟩
          · rw [ht] at h
            cases h
            exact ⟨⟨hw, .inr ⟨token_ok ht, rfl⟩, fun q hq => (by cases hq), trivial, by simp⟩, fun q hq => by cases hq⟩
theorem parse_read : ∀ (f : Nat) (acc : List Chal) (r : List UInt8) (xs : List Chal), parseL f acc r = .ok xs → (∀ x ∈ acc, Read x) → acc.length ≤ 8 → (∀ x ∈ xs, Read x) ∧ xs.length ≤ 8
  | 0, acc, r, xs, h, _, _ => by cases h
  | f + 1, acc, r, xs, h, ha, hl => by
    unfold parseL at h
    split at h
    · cases h
      exact ⟨ha, hl⟩
    · rcases hc : chalL acc.length (r.dropWhile gapB) with e | ⟨x, u⟩
      · rw [hc] at h; cases h
      · rw [hc] at h
        have h8 : acc.length < 8 := by
          unfold chalL at hc
          split at hc
          · cases hc
          · split at hc
            · cases hc
            · omega
        exact parse_read f _ _ _ h (fun y hy => by
          rcases List.mem_append.1 hy with hy | hy
          · exact ha y hy
          · rw [List.mem_singleton.1 hy]; exact chal_read hc) (by simp; omega)
theorem ask_read {s : List UInt8} {xs : List Chal} (h : askL s = .ok xs) : (∀ x ∈ xs, Read x) ∧ xs.length ≤ 8 := parse_read _ _ _ _ h (fun x hx => by cases hx) (by simp)
theorem parsT_some : ∀ (ps : List Par) (f : Bool), (∀ q ∈ ps, ∃ t, valueO q.2.data.toList = some t) → ∃ a, parsT f ps = some a
  | [], f, _ => ⟨_, rfl⟩
  | p :: r, f, h => by
    obtain ⟨t, ht⟩ := h p (by simp)
    obtain ⟨b, hb⟩ := parsT_some r false (fun q hq => h q (by simp [hq]))
    have hp : parT p = some (32 :: (p.1.data.toList ++ 61 :: t)) := by unfold parT; rw [ht]; rfl
    exact ⟨_, by rw [parsT, hp]; simp only []; rw [hb]; rfl⟩
theorem print_read : ∀ (xs : List Chal) (i : Nat), (∀ x ∈ xs, Read x) → ∃ T, printL i xs = .ok T
  | [], i, _ => ⟨_, rfl⟩
  | x :: r, i, h => by
    obtain ⟨a, ha⟩ := parsT_some x.params true (h x (by simp)).2
    obtain ⟨b, hb⟩ := print_read r (i + 1) (fun y hy => h y (by simp [hy]))
    have hc : chalT x = some (x.scheme.data.toList ++ tokT x.token ++ a) := by unfold chalT; rw [ha]; rfl
    exact ⟨_, by rw [printL, hc]; simp only []; rw [hb]; rfl⟩
/-- What is read is written, and read again as the same. -/
theorem ask_again {s : List UInt8} {xs : List Chal} (h : askL s = .ok xs) : ∃ T, printL 0 xs = .ok T ∧ askL T = .ok xs := by
  obtain ⟨h1, h2⟩ := ask_read h
  obtain ⟨T, hT⟩ := print_read xs 0 h1
  exact ⟨T, hT, ask_print (fun x hx => (h1 x hx).1) h2 hT⟩
end Go.Proofs.YteldgpkkgnfiaabDoor
