/- Texts of one claim, joined: each begins with what it proves. -/
import Derived.Test.YtgajhmmildbkfaaGreatDoorJo4
import Derived.Test.YtgajhmmildbkfaaGreatDoorJo1
import Derived.Lib.Join
import Derived.Deep.Draws
import Derived.Deep.LoopGhost
import Derived.Shelf.LaysM
import Derived.Shelf.Strconv.Clone
import Derived.Deep.QuietTactic
import Derived.BigQuiet
import Derived.Shelf.Strings.Search2
import Derived.Lib.Strings
import Derived.Lib.Slices
import Derived.Lib.Walk
import Derived.Lib.Bytealg
/- Challenges written, as the document says, over lists of bytes. -/
namespace Go.Proofs.YtgajhmmildbkfaaGreatDoor

/-- A parameter, a blank ahead. -/
def parT (p : Par) : Option (List UInt8) := (valueO p.2.data.toList).map fun v => 32 :: (p.1.data.toList ++ 61 :: v)
def sepP (first : Bool) : List UInt8 := if first then [] else [44]
def parsT : Bool → List Par → Option (List UInt8)
  | _, [] => some []
  | first, p :: r => match parT p with
    | none => none
    | some a => (parsT false r).map fun b => sepP first ++ a ++ b
def tokT (t : ByteArray) : List UInt8 := if t.size = 0 then [] else 32 :: t.data.toList
def chalT (x : Chal) : Option (List UInt8) := (parsT true x.params).map fun a => x.scheme.data.toList ++ tokT x.token ++ a
def sepC (i : Nat) : List UInt8 := if i = 0 then [] else [44, 32]
/-- Challenges as a header, or the number of the first one that can't be told. -/
def printL : Nat → List Chal → Except Nat (List UInt8)
  | _, [] => .ok []
  | i, x :: r => match chalT x with
    | none => .error i
    | some a => (printL (i + 1) r).map fun b => sepC i ++ a ++ b
theorem valueO_len (v t : List UInt8) (h : valueO v = some t) : t.length ≤ 2 * v.length + 2 := by
  unfold valueO at h
  split at h
  · cases h; omega
  · unfold quoteO at h
    split at h
    · cases h
      unfold quoteL
      have := escL_length v
      simp
      omega
    · cases h
theorem parT_len (p : Par) (a : List UInt8) (h : parT p = some a) : a.length ≤ 2 * (p.1.size + p.2.size) + 4 := by
  unfold parT at h
  obtain ⟨v, hv, rfl⟩ := Option.map_eq_some_iff.1 h
  have := valueO_len _ _ hv
  have e1 : p.1.data.toList.length = p.1.size := Array.length_toList
  have e2 : p.2.data.toList.length = p.2.size := Array.length_toList
  simp
  omega
theorem parsT_len : ∀ (ps : List Par) (f : Bool) (a : List UInt8), parsT f ps = some a → a.length ≤ 2 * parW ps + 5 * ps.length
  | [], f, a, h => by cases h; simp
  | p :: r, f, a, h => by
    unfold parsT at h
    rcases hp : parT p with _ | q
    · rw [hp] at h; cases h
    · rw [hp] at h
      obtain ⟨b, hb, rfl⟩ := Option.map_eq_some_iff.1 h
      have h1 := parsT_len r false b hb
      have h2 := parT_len p q hp
      have h3 : (sepP f).length ≤ 1 := by cases f <;> simp [sepP]
      rw [parW, List.length_append, List.length_append, List.length_cons]
      omega
theorem chalT_len (x : Chal) (a : List UInt8) (h : chalT x = some a) : a.length ≤ 2 * chW x + 5 * x.params.length + 1 := by
  unfold chalT at h
  obtain ⟨b, hb, rfl⟩ := Option.map_eq_some_iff.1 h
  have h1 := parsT_len _ _ _ hb
  have e1 : x.scheme.data.toList.length = x.scheme.size := Array.length_toList
  have e2 : x.token.data.toList.length = x.token.size := Array.length_toList
  have h2 : (tokT x.token).length ≤ x.token.size + 1 := by unfold tokT; split <;> simp
  unfold chW
  rw [List.length_append, List.length_append]
  omega
/-- What is known of the parameters behind the first k. -/
def ParsAt (ps : List Par) (o : List UInt8) (k : Nat) : Prop := parsT true ps = (parsT (k == 0) (ps.drop k)).map (o ++ ·)
theorem parsAt_start (ps : List Par) : ParsAt ps [] 0 := by
  unfold ParsAt
  rw [List.drop_zero]
  show parsT true ps = (parsT true ps).map _
  generalize parsT true ps = o
  cases o <;> simp
theorem parsAt_end {ps : List Par} {o : List UInt8} {k : Nat} (h : ParsAt ps o k) (hk : ps.length ≤ k) : parsT true ps = some o := by
  unfold ParsAt at h
  rw [h, List.drop_of_length_le hk]
  simp [parsT]
theorem parsAt_bad {ps : List Par} {o : List UInt8} {k : Nat} {p : Par} (h : ParsAt ps o k) (hk : ps[k]? = some p) (hp : parT p = none) : parsT true ps = none := by
  unfold ParsAt at h
  obtain ⟨hk1, e⟩ := List.getElem?_eq_some_iff.1 hk
  rw [h, List.drop_eq_getElem_cons hk1, e, parsT, hp]
  rfl
theorem parsAt_next {ps : List Par} {o a : List UInt8} {k : Nat} {p : Par} (h : ParsAt ps o k) (hk : ps[k]? = some p) (hp : parT p = some a) : ParsAt ps (o ++ (sepP (k == 0) ++ a)) (k + 1) := by
  unfold ParsAt at h ⊢
  obtain ⟨hk1, e⟩ := List.getElem?_eq_some_iff.1 hk
  rw [h, List.drop_eq_getElem_cons hk1, e, parsT, hp]
  simp only [Option.map_map]
  congr 1
  funext b
  simp
/-- What is known of the challenges behind the first k. -/
def PrintAt (xs : List Chal) (o : List UInt8) (k : Nat) : Prop := printL 0 xs = (printL k (xs.drop k)).map (o ++ ·)
theorem printAt_start (xs : List Chal) : PrintAt xs [] 0 := by
  unfold PrintAt
  rw [List.drop_zero]
  cases printL 0 xs <;> simp [Except.map]
theorem printAt_end {xs : List Chal} {o : List UInt8} {k : Nat} (h : PrintAt xs o k) (hk : xs.length ≤ k) : printL 0 xs = .ok o := by
  unfold PrintAt at h
  rw [h, List.drop_of_length_le hk]
  simp [printL, Except.map]
theorem printAt_bad {xs : List Chal} {o : List UInt8} {k : Nat} {x : Chal} (h : PrintAt xs o k) (hk : xs[k]? = some x) (hp : chalT x = none) : printL 0 xs = .error k := by
  unfold PrintAt at h
  obtain ⟨hk1, e⟩ := List.getElem?_eq_some_iff.1 hk
  rw [h, List.drop_eq_getElem_cons hk1, e, printL, hp]
  rfl
theorem printAt_next {xs : List Chal} {o a : List UInt8} {k : Nat} {x : Chal} (h : PrintAt xs o k) (hk : xs[k]? = some x) (hp : chalT x = some a) : PrintAt xs (o ++ (sepC k ++ a)) (k + 1) := by
  unfold PrintAt at h ⊢
  obtain ⟨hk1, e⟩ := List.getElem?_eq_some_iff.1 hk
  rw [h, List.drop_eq_getElem_cons hk1, e, printL, hp]
  cases printL (k + 1) (xs.drop (k + 1)) <;> simp [Except.map]
end Go.Proofs.YtgajhmmildbkfaaGreatDoor

/- Challenges that are written are read as they are, over lists of bytes. -/
namespace Go.Proofs.YtgajhmmildbkfaaGreatDoor

theorem kinds : ∀ c : UInt8, (tokB c = true → c ≠ 61 ∧ c ≠ 44 ∧ c ≠ 34 ∧ blankB c = false ∧ gapB c = false) ∧ (tkB c = true → c ≠ 61 ∧ c ≠ 44 ∧ blankB c = false) := by
  intro c
  have : ∀ n : Fin 256, (tokB (UInt8.ofNat n.1) = true → UInt8.ofNat n.1 ≠ 61 ∧ UInt8.ofNat n.1 ≠ 44 ∧ UInt8.ofNat n.1 ≠ 34 ∧ blankB (UInt8.ofNat n.1) = false ∧ gapB (UInt8.ofNat n.1) = false) ∧ (tkB (UInt8.ofNat n.1) = true → UInt8.ofNat n.1 ≠ 61 ∧ UInt8.ofNat n.1 ≠ 44 ∧ blankB (UInt8.ofNat n.1) = false) := by decide +kernel
  have h := this ⟨c.toNat, c.toNat_lt⟩
  simpa using h
/-- Nothing, or a comma ahead. -/
def Ends (m : List UInt8) : Prop := m = [] ∨ ∃ t, m = 44 :: t
theorem tw_end (f : UInt8 → Bool) (hf : f 44 = false) {m : List UInt8} (h : Ends m) : m.takeWhile f = [] ∧ m.dropWhile f = m := by
  rcases h with rfl | ⟨t, rfl⟩
  · exact ⟨rfl, rfl⟩
  · exact ⟨by rw [List.takeWhile_cons, hf]; rfl, by rw [List.dropWhile_cons, hf]; rfl⟩
theorem stops_end {m : List UInt8} (h : Ends m) : stopsL m = true := by
  rcases h with rfl | ⟨t, rfl⟩
  · rfl
  · rfl
theorem tw_app (f : UInt8 → Bool) {a m : List UInt8} (ha : a.all f = true) (hm : m.takeWhile f = []) : (a ++ m).takeWhile f = a := by
  rw [List.takeWhile_append_of_pos (by simpa [List.all_eq_true] using ha), hm, List.append_nil]
theorem dw_app (f : UInt8 → Bool) {a m : List UInt8} (ha : a.all f = true) (hm : m.dropWhile f = m) : (a ++ m).dropWhile f = m := by
  rw [List.dropWhile_append_of_pos (by simpa [List.all_eq_true] using ha), hm]
theorem dw_first (f : UInt8 → Bool) {c : UInt8} (t : List UInt8) (h : f c = false) : (c :: t).dropWhile f = c :: t ∧ (c :: t).takeWhile f = [] := by
  rw [List.dropWhile_cons, List.takeWhile_cons, h]
  exact ⟨rfl, rfl⟩
theorem isL_cons {l : List UInt8} (h : isL l = true) : ∃ c t, l = c :: t ∧ tokB c = true ∧ l.all tokB = true := by
  unfold isL at h
  rw [Bool.and_eq_true] at h
  cases l with
  | nil => cases h.1
  | cons c t =>
    refine ⟨c, t, rfl, ?_, h.2⟩
    have := h.2
    rw [List.all_cons, Bool.and_eq_true] at this
    exact this.1
/-- A parameter that is not like those ahead. -/
def Unlike : List Par → List Par → Prop
  | _, [] => True
  | acc, p :: r => toldL acc p.1 = false ∧ Unlike (acc ++ [p]) r
/-- A parameter's text, without the blank. -/
def parN (p : Par) (v : List UInt8) : List UInt8 := p.1.data.toList ++ 61 :: v
theorem parT_is {p : Par} {a : List UInt8} (h : parT p = some a) : ∃ v, valueO p.2.data.toList = some v ∧ a = 32 :: parN p v := by
  unfold parT at h
  obtain ⟨v, hv, rfl⟩ := Option.map_eq_some_iff.1 h
  exact ⟨v, hv, rfl⟩
theorem value_first {s v : List UInt8} (h : valueO s = some v) : ∃ c t, v = c :: t ∧ (tokB c = true ∨ c = 34) := by
  unfold valueO at h
  split at h
  · rename_i hs
    cases h
    obtain ⟨c, t, rfl, hc, _⟩ := isL_cons hs
    exact ⟨c, t, rfl, .inl hc⟩
  · unfold quoteO at h
    split at h
    · cases h
      exact ⟨34, _, rfl, .inr rfl⟩
    · cases h
theorem first_kinds {c : UInt8} (h : tokB c = true ∨ c = 34) : c ≠ 61 ∧ c ≠ 44 ∧ blankB c = false ∧ eqB c = false := by
  have : c ≠ 61 ∧ c ≠ 44 ∧ blankB c = false := by
    rcases h with h | rfl
    · exact ⟨((kinds c).1 h).1, ((kinds c).1 h).2.1, ((kinds c).1 h).2.2.2.1⟩
    · decide
  exact ⟨this.1, this.2.1, this.2.2, beq_eq_false_iff_ne.2 this.1⟩
theorem name_is {p : Par} {v R : List UInt8} (hn : isL p.1.data.toList = true) : nameL (parN p v ++ R) = some (p.1, v ++ R) := by
  obtain ⟨c, t, e, hc, ha⟩ := isL_cons hn
  unfold nameL parN
  have h1 : (p.1.data.toList ++ 61 :: v ++ R).takeWhile tokB = p.1.data.toList := by
    rw [List.append_assoc]
    exact tw_app tokB ha (dw_first tokB _ (by decide)).2
  have h2 : (p.1.data.toList ++ 61 :: v ++ R).dropWhile tokB = 61 :: (v ++ R) := by
    rw [List.append_assoc]
    exact dw_app tokB ha (dw_first tokB _ (by decide)).1
  rw [h1, h2, (dw_first blankB _ (by decide)).1, if_neg (by rw [e]; simp)]
  show some (bs p.1.data.toList, v ++ R) = _
  rw [bs_self]
theorem value_is {p : Par} {v R : List UInt8} (hv : valueO p.2.data.toList = some v) (hR : Ends R) : valueL ((v ++ R).dropWhile blankB) = some (p.2, R) := by
  obtain ⟨c, t, e, hc⟩ := value_first hv
  have hb : (v ++ R).dropWhile blankB = v ++ R := by
    rw [e]
    exact (dw_first blankB _ (first_kinds hc).2.2.1).1
  rw [hb]
  have hm : ∀ c t, R = c :: t → tokB c = false := by
    intro c t h
    rcases hR with rfl | ⟨t', rfl⟩
    · cases h
    · cases h; decide
  rcases value_word _ v R hm hv with ⟨hs, rfl, htw⟩ | ⟨hs, htw, hq⟩
  · unfold valueL
    obtain ⟨c', t', e', _, ha⟩ := isL_cons hs
    rw [htw, if_neg (by rw [e']; simp), bs_self]
    congr 2
    exact dw_app tokB ha (tw_end tokB (by decide) hR).2
  · unfold valueL
    rw [if_pos htw, hq]
    show some (bs p.2.data.toList, (v ++ R).drop v.length) = _
    rw [bs_self, List.drop_left]
/-- What stands between two parameters. -/
theorem parsF_is : ∀ {r : List Par} {a : List UInt8}, parsT false r = some a → (r = [] ∧ a = []) ∨ ∃ p r' v b, r = p :: r' ∧ valueO p.2.data.toList = some v ∧ parsT false r' = some b ∧ a = 44 :: 32 :: (parN p v ++ b)
  | [], a, h => by cases h; exact .inl ⟨rfl, rfl⟩
  | p :: r', a, h => by
    rw [parsT] at h
    rcases hp : parT p with _ | q
    · rw [hp] at h; cases h
    · rw [hp] at h
      obtain ⟨b, hb, rfl⟩ := Option.map_eq_some_iff.1 h
      obtain ⟨v, hv, rfl⟩ := parT_is hp
      exact .inr ⟨p, r', v, b, rfl, hv, hb, by simp [sepP]⟩
theorem ends_app {a m : List UInt8} {r : List Par} (h : parsT false r = some a) (hm : Ends m) : Ends (a ++ m) := by
  rcases parsF_is h with ⟨_, rfl⟩ | ⟨p, r', v, b, _, _, _, rfl⟩
  · exact hm
  · exact .inr ⟨_, rfl⟩
theorem params_print : ∀ (r : List Par) (p : Par) (acc : List Par) (f : Nat) (v b m : List UInt8), (∀ q ∈ p :: r, isL q.1.data.toList = true) → Unlike acc (p :: r) → acc.length + (p :: r).length ≤ 16 →
    valueO p.2.data.toList = some v → parsT false r = some b → Ends m → nameL (m.dropWhile gapB) = none → (parN p v ++ b ++ m).length < f →
    paramsL f acc (parN p v ++ b ++ m) = .ok (acc ++ p :: r, m.dropWhile gapB)
  | r, p, acc, 0, v, b, m, _, _, _, _, _, _, _, hf => absurd hf (Nat.not_lt_zero _)
  | r, p, acc, f + 1, v, b, m, hi, hu, hl, hv, hb, hm, hnm, hf => by
    have hE := ends_app hb hm
    have hpar : paramL acc (parN p v ++ b ++ m) = .ok (p, b ++ m) := by
      unfold paramL
      rw [List.append_assoc, name_is (hi p (by simp))]
      simp only [value_is hv hE]
      rw [hu.1, if_neg (by simp), if_neg (by simp at hl; omega)]
    rw [paramsL, hpar]
    simp only [(tw_end blankB (by decide) hE).2, stops_end hE, if_true]
    rcases parsF_is hb with ⟨rfl, rfl⟩ | ⟨q, r', v', b', rfl, hv', hb', rfl⟩
    · rw [List.nil_append, hnm]
      rfl
    · obtain ⟨c, t, e, hc, _⟩ := isL_cons (hi q (by simp))
      have hg : (44 :: 32 :: (parN q v' ++ b') ++ m).dropWhile gapB = parN q v' ++ b' ++ m := by
        rw [List.cons_append, List.cons_append, List.dropWhile_cons_of_pos (by decide), List.dropWhile_cons_of_pos (by decide)]
        unfold parN
        rw [e]
        exact (dw_first gapB _ ((kinds c).1 hc).2.2.2.2).1
      rw [hg, List.append_assoc, name_is (hi q (by simp))]
      simp only [Option.isSome_some, if_true]
      rw [← List.append_assoc, params_print r' q (acc ++ [p]) f v' b' m (fun x hx => hi x (by simp at hx ⊢; exact .inr hx)) hu.2 (by simp at hl ⊢; omega) hv' hb' hm hnm (by simp [parN] at hf ⊢; omega)]
      simp
theorem token_none {p : Par} {v R : List UInt8} (hn : isL p.1.data.toList = true) (hv : valueO p.2.data.toList = some v) : tokenL (parN p v ++ R) = none := by
  obtain ⟨c, t, e, hc⟩ := value_first hv
  obtain ⟨k1, k2, k3, k4⟩ := first_kinds hc
  unfold tokenL
  rw [if_neg]
  rintro ⟨_, hs⟩
  unfold parN at hs
  by_cases ha : p.1.data.toList.all tkB = true
  · rw [List.append_assoc, List.cons_append, dw_app tkB ha (dw_first tkB _ (by decide)).1, List.dropWhile_cons_of_pos (by decide), e, List.cons_append, (dw_first eqB _ k4).1, (dw_first blankB _ k3).1] at hs
    unfold stopsL at hs
    exact k2 (by simpa using hs)
  · obtain ⟨c', t', e', _, hall⟩ := isL_cons hn
    have hdw : ∃ d u, p.1.data.toList.dropWhile tkB = d :: u ∧ d ∈ p.1.data.toList := by
      cases h : p.1.data.toList.dropWhile tkB with
      | nil => exact absurd ((dw_nil _ _).1 h) ha
      | cons d u => exact ⟨d, u, rfl, (List.dropWhile_sublist _).subset (by rw [h]; simp)⟩
    obtain ⟨d, u, hd, hmem⟩ := hdw
    have hdt : tokB d = true := List.all_eq_true.1 hall d hmem
    obtain ⟨j1, j2, _, j3, _⟩ := (kinds d).1 hdt
    have hfull : (p.1.data.toList ++ 61 :: v ++ R).dropWhile tkB = d :: (u ++ 61 :: v ++ R) := by
      rw [List.append_assoc, List.dropWhile_append, hd]
      simp
    rw [hfull, (dw_first eqB _ (beq_eq_false_iff_ne.2 j1)).1, (dw_first blankB _ j3).1] at hs
    unfold stopsL at hs
    exact j2 (by simpa using hs)
/-- A Token as it is read. -/
def TokOk (t : List UInt8) : Prop := ∃ b e, t = b ++ e ∧ b ≠ [] ∧ b.all tkB = true ∧ e.all eqB = true
/-- A challenge that can be told so. -/
def Good (x : Chal) : Prop := isL x.scheme.data.toList = true ∧ (x.token.size = 0 ∨ TokOk x.token.data.toList ∧ x.params = []) ∧ (∀ q ∈ x.params, isL q.1.data.toList = true) ∧ Unlike [] x.params ∧ x.params.length ≤ 16
theorem empty_of {s : ByteArray} (h : s.size = 0) : s = ⟨#[]⟩ := ByteArray.ext (Array.eq_empty_of_size_eq_zero h)
theorem tokOk_first {t : List UInt8} (h : TokOk t) : ∃ c u, t = c :: u ∧ tkB c = true := by
  obtain ⟨b, e, rfl, hb, ha, _⟩ := h
  cases b with
  | nil => exact absurd rfl hb
  | cons c u =>
    rw [List.all_cons, Bool.and_eq_true] at ha
    exact ⟨c, u ++ e, rfl, ha.1⟩
theorem token_is {t m : List UInt8} (h : TokOk t) (hm : Ends m) : tokenL (t ++ m) = some (bs t, m) := by
  obtain ⟨b, e, rfl, hb, ha, he⟩ := h
  have hem : (e ++ m).dropWhile tkB = e ++ m := by
    cases e with
    | nil => exact (tw_end tkB (by decide) hm).2
    | cons c u =>
      rw [List.all_cons, Bool.and_eq_true] at he
      have hc : c = 61 := by simpa [eqB] using he.1
      subst hc
      exact (dw_first tkB _ (by decide)).1
  have h1 : (b ++ e ++ m).dropWhile tkB = e ++ m := by rw [List.append_assoc]; exact dw_app tkB ha hem
  have h2 : (e ++ m).dropWhile eqB = m := dw_app eqB he (tw_end eqB (by decide) hm).2
  unfold tokenL
  rw [h1, h2, (tw_end blankB (by decide) hm).2, if_pos ⟨by have := List.length_pos_iff.2 hb; simp; omega, stops_end hm⟩]
  congr 3
  rw [List.length_append, Nat.add_sub_cancel, List.take_left]
theorem chal_print {x : Chal} {t m : List UInt8} (hg : Good x) (ht : chalT x = some t) (ahead : Nat) (ha : ahead < 8) (hm : Ends m) (hnm : nameL (m.dropWhile gapB) = none) : ∃ u, chalL ahead (t ++ m) = .ok (x, u) ∧ u.dropWhile gapB = m.dropWhile gapB := by
  obtain ⟨h1, h2, h3, h4, h5⟩ := hg
  obtain ⟨c, s', es, hc, hall⟩ := isL_cons h1
  unfold chalT at ht
  obtain ⟨b, hb, rfl⟩ := Option.map_eq_some_iff.1 ht
  have hne : x.scheme.data.toList ≠ [] := by rw [es]; simp
  rcases h2 with h2 | ⟨h2, hp⟩
  · have htk := empty_of h2
    have htt : tokT x.token = [] := by unfold tokT; rw [if_pos h2]
    rw [htt, List.append_nil]
    rcases hps : x.params with _ | ⟨p, r⟩
    · rw [hps] at hb
      cases hb
      rw [List.append_nil]
      refine ⟨m, ?_, rfl⟩
      unfold chalL
      rw [tw_app tokB hall (tw_end tokB (by decide) hm).1, dw_app tokB hall (tw_end tokB (by decide) hm).2, (tw_end blankB (by decide) hm).2, stops_end hm, if_neg hne, if_neg (by omega), if_pos rfl, bs_self]
      rcases x with ⟨a1, a2, a3⟩
      simp only at hps htk
      rw [hps, htk]
    · rw [hps] at hb h3 h4 h5
      rw [parsT] at hb
      rcases hpt : parT p with _ | q
      · rw [hpt] at hb; cases hb
      · rw [hpt] at hb
        obtain ⟨b', hb', rfl⟩ := Option.map_eq_some_iff.1 hb
        obtain ⟨v, hv, rfl⟩ := parT_is hpt
        have e1 : x.scheme.data.toList ++ (sepP true ++ 32 :: parN p v ++ b') ++ m = x.scheme.data.toList ++ 32 :: (parN p v ++ b' ++ m) := by simp [sepP]
        rw [e1]
        obtain ⟨d, u', ed, hd, _⟩ := isL_cons (h3 p (by simp))
        have hb1 : (32 :: (parN p v ++ b' ++ m)).dropWhile blankB = parN p v ++ b' ++ m := by
          rw [List.dropWhile_cons_of_pos (by decide)]
          unfold parN
          rw [ed]
          exact (dw_first blankB _ ((kinds d).1 hd).2.2.2.1).1
        have hst : stopsL (parN p v ++ b' ++ m) = false := by
          unfold parN
          rw [ed]
          exact beq_eq_false_iff_ne.2 ((kinds d).1 hd).2.1
        refine ⟨m.dropWhile gapB, ?_, ?_⟩
        · unfold chalL
          rw [tw_app tokB hall (dw_first tokB _ (by decide)).2, dw_app tokB hall (dw_first tokB _ (by decide)).1, hb1, hst, if_neg hne, if_neg (by omega), if_neg (by simp), if_neg (by unfold runL; rw [List.takeWhile_cons_of_pos (by decide)]; simp), bs_self]
          unfold insideL
          rw [List.append_assoc, token_none (h3 p (by simp)) hv, ← List.append_assoc]
          simp only []
          rw [params_print r p [] _ v b' m h3 h4 (by simpa using h5) hv hb' hm hnm (by omega)]
          rcases x with ⟨a1, a2, a3⟩
          simp only at hps htk
          rw [hps, htk]
          rfl
        · have : ∀ l : List UInt8, (l.dropWhile gapB).dropWhile gapB = l.dropWhile gapB := fun l => by
            induction l with
            | nil => rfl
            | cons c t ih =>
              by_cases h : gapB c = true
              · rw [List.dropWhile_cons_of_pos h, ih]
              · rw [List.dropWhile_cons_of_neg h, List.dropWhile_cons_of_neg h]
          exact this m
  · rw [hp] at hb
    cases hb
    obtain ⟨d, u', ed, hd⟩ := tokOk_first h2
    have hz : x.token.size ≠ 0 := by
      intro h
      have := empty_of h
      rw [this] at ed
      cases ed
    have htt : tokT x.token = 32 :: x.token.data.toList := by unfold tokT; rw [if_neg hz]
    rw [htt, List.append_nil, List.append_assoc, List.cons_append]
    have hb1 : (32 :: (x.token.data.toList ++ m)).dropWhile blankB = x.token.data.toList ++ m := by
      rw [List.dropWhile_cons_of_pos (by decide), ed]
      exact (dw_first blankB _ ((kinds d).2 hd).2.2).1
    have hst : stopsL (x.token.data.toList ++ m) = false := by
      rw [ed]
      exact beq_eq_false_iff_ne.2 ((kinds d).2 hd).2.1
    refine ⟨m, ?_, rfl⟩
    unfold chalL
    rw [tw_app tokB hall (dw_first tokB _ (by decide)).2, dw_app tokB hall (dw_first tokB _ (by decide)).1, hb1, hst, if_neg hne, if_neg (by omega), if_neg (by simp), if_neg (by unfold runL; rw [List.takeWhile_cons_of_pos (by decide)]; simp), bs_self]
    unfold insideL
    rw [token_is h2 hm]
    simp only []
    rcases x with ⟨a1, a2, a3⟩
    simp only at hp
    rw [hp, bs_self]
theorem head_next {x : Chal} {a T : List UInt8} (hg : Good x) (ha : chalT x = some a) (hT : Ends T) : nameL (a ++ T) = none ∧ (a ++ T).dropWhile gapB = a ++ T ∧ a ≠ [] := by
  obtain ⟨h1, h2, h3, h4, h5⟩ := hg
  obtain ⟨c, s', es, hc, hall⟩ := isL_cons h1
  unfold chalT at ha
  obtain ⟨b, hb, rfl⟩ := Option.map_eq_some_iff.1 ha
  have hrest : ∃ R, x.scheme.data.toList ++ tokT x.token ++ b ++ T = x.scheme.data.toList ++ R ∧ (Ends R ∨ ∃ d u, R = 32 :: d :: u ∧ d ≠ 61 ∧ blankB d = false) := by
    refine ⟨tokT x.token ++ b ++ T, by simp, ?_⟩
    rcases h2 with h2 | ⟨h2, hp⟩
    · have htt : tokT x.token = [] := by unfold tokT; rw [if_pos h2]
      rw [htt, List.nil_append]
      rcases hps : x.params with _ | ⟨p, r⟩
      · rw [hps] at hb
        cases hb
        exact .inl hT
      · rw [hps] at hb h3
        rw [parsT] at hb
        rcases hpt : parT p with _ | q
        · rw [hpt] at hb; cases hb
        · rw [hpt] at hb
          obtain ⟨b', hb', rfl⟩ := Option.map_eq_some_iff.1 hb
          obtain ⟨v, hv, rfl⟩ := parT_is hpt
          obtain ⟨d, u', ed, hd, _⟩ := isL_cons (h3 p (by simp))
          refine .inr ⟨d, u' ++ 61 :: v ++ b' ++ T, ?_, ((kinds d).1 hd).1, ((kinds d).1 hd).2.2.2.1⟩
          unfold parN
          rw [ed]
          simp [sepP]
    · rw [hp] at hb
      cases hb
      obtain ⟨d, u', ed, hd⟩ := tokOk_first h2
      have hz : x.token.size ≠ 0 := by
        intro h
        have := empty_of h
        rw [this] at ed
        cases ed
      have htt : tokT x.token = 32 :: x.token.data.toList := by unfold tokT; rw [if_neg hz]
      rw [htt, ed]
      exact .inr ⟨d, u' ++ [] ++ T, by simp, ((kinds d).2 hd).1, ((kinds d).2 hd).2.2⟩
  obtain ⟨R, hR, hcase⟩ := hrest
  refine ⟨?_, ?_, by rw [es]; simp⟩
  · rw [hR]
    unfold nameL
    rcases hcase with hE | ⟨d, u, rfl, hd1, hd2⟩
    · rw [dw_app tokB hall (tw_end tokB (by decide) hE).2, (tw_end blankB (by decide) hE).2]
      split
      · rfl
      · rcases hE with rfl | ⟨t, rfl⟩ <;> rfl
    · rw [dw_app tokB hall (dw_first tokB _ (by decide)).1, List.dropWhile_cons_of_pos (by decide), (dw_first blankB _ hd2).1]
      split
      · rfl
      · show Option.map _ (if d = 61 then some u else none) = none
        rw [if_neg hd1]
        rfl
  · rw [hR, es]
    exact (dw_first gapB _ ((kinds c).1 hc).2.2.2.2).1
theorem parse_gapsL {f : Nat} {acc : List Chal} {u v : List UInt8} (h : u.dropWhile gapB = v.dropWhile gapB) : parseL (f + 1) acc u = parseL (f + 1) acc v := by rw [parseL, parseL, h]
theorem print_ends : ∀ {xs : List Chal} {i : Nat} {T : List UInt8}, printL (i + 1) xs = .ok T → Ends T
  | [], i, T, h => by cases h; exact .inl rfl
  | x :: r, i, T, h => by
    rw [printL] at h
    rcases hc : chalT x with _ | a
    · rw [hc] at h; cases h
    · rw [hc] at h
      rcases hr : printL (i + 1 + 1) r with e | b
      · simp only [hr] at h; cases h
      · simp only [hr] at h
        cases h
        exact .inr ⟨32 :: (a ++ b), by simp [sepC]⟩
theorem parse_print : ∀ (xs : List Chal) (acc : List Chal) (f i : Nat) (T : List UInt8), (∀ x ∈ xs, Good x) → acc.length + xs.length ≤ 8 → printL i xs = .ok T → T.length < f → parseL f acc T = .ok (acc ++ xs)
  | xs, acc, 0, i, T, _, _, _, hf => absurd hf (Nat.not_lt_zero _)
  | [], acc, f + 1, i, T, _, _, h, _ => by
    cases h
    rw [parseL, List.append_nil]
    rfl
  | x :: r, acc, f + 1, i, T, hg, hl, h, hf => by
    rw [printL] at h
    rcases hc : chalT x with _ | a
    · rw [hc] at h; cases h
    · rw [hc] at h
      rcases hr : printL (i + 1) r with e | b
      · simp only [hr] at h; cases h
      · simp only [hr] at h
        cases h
        have hE := print_ends hr
        obtain ⟨n1, n2, n3⟩ := head_next (hg x (by simp)) hc hE
        have hdw : (sepC i ++ a ++ b).dropWhile gapB = a ++ b := by
          unfold sepC
          split
          · rw [List.nil_append]; exact n2
          · rw [List.append_assoc, List.cons_append, List.dropWhile_cons_of_pos (by decide), List.cons_append, List.dropWhile_cons_of_pos (by decide), List.nil_append]
            exact n2
        have hnb : nameL (b.dropWhile gapB) = none := by
          cases r with
          | nil => cases hr; rfl
          | cons y r' =>
            rw [printL] at hr
            rcases hc' : chalT y with _ | a'
            · rw [hc'] at hr; cases hr
            · rw [hc'] at hr
              rcases hr' : printL (i + 1 + 1) r' with e | b'
              · simp only [hr'] at hr; cases hr
              · simp only [hr'] at hr
                cases hr
                have hE' := print_ends hr'
                obtain ⟨k1, k2, _⟩ := head_next (hg y (by simp)) hc' hE'
                have : (sepC (i + 1) ++ a' ++ b').dropWhile gapB = a' ++ b' := by
                  unfold sepC
                  rw [if_neg (by omega), List.append_assoc, List.cons_append, List.dropWhile_cons_of_pos (by decide), List.cons_append, List.dropWhile_cons_of_pos (by decide), List.nil_append]
                  exact k2
                rw [this]
                exact k1
        obtain ⟨u, hu1, hu2⟩ := chal_print (hg x (by simp)) hc acc.length (by simp at hl; omega) hE hnb
        rw [parseL, hdw, if_neg (by intro e; exact n3 (List.append_eq_nil_iff.1 e).1), hu1]
        simp only []
        have hf0 : 0 < f := by
          have := List.length_pos_iff.2 n3
          simp at hf
          omega
        obtain ⟨f', rfl⟩ : ∃ f', f = f' + 1 := ⟨f - 1, by omega⟩
        rw [parse_gapsL hu2, parse_print r (acc ++ [x]) (f' + 1) (i + 1) b (fun y hy => hg y (by simp [hy])) (by simp at hl ⊢; omega) hr (by have := List.length_pos_iff.2 n3; simp at hf; omega)]
        simp
/-- What is written so is read as it is. -/
theorem ask_print {xs : List Chal} {T : List UInt8} (hg : ∀ x ∈ xs, Good x) (hl : xs.length ≤ 8) (h : printL 0 xs = .ok T) : askL T = .ok xs := by
  unfold askL
  rw [parse_print xs [] _ 0 T hg (by simpa using hl) h (by omega)]
  rfl
end Go.Proofs.YtgajhmmildbkfaaGreatDoor

/- A challenge of parameters that are told by words, or between marks, is read as it is, over lists of bytes. -/
namespace Go.Proofs.YtgajhmmildbkfaaGreatDoor

/-- A parameter and how its value is written. -/
structure Told (x : Par × List UInt8) : Prop where
  name : isL x.1.1.data.toList = true
  first : ∃ c t, x.2 = c :: t ∧ (tokB c = true ∨ c = 34)
  reads : ∀ R, Ends R → valueL (x.2 ++ R) = some (x.1.2, R)
theorem told_quote (n v : ByteArray) (q : List UInt8) (hn : isL n.data.toList = true) (hq : quoteO v.data.toList = some q) : Told ((n, v), q) := by
  have e2 : v.data.toList.all textB = true ∧ q = quoteL v.data.toList := by
    unfold quoteO at hq
    split at hq
    · rename_i h
      cases hq
      exact ⟨h, rfl⟩
    · cases hq
  obtain ⟨h0, e⟩ := e2
  refine ⟨hn, ⟨34, _, e, .inr rfl⟩, fun R hR => ?_⟩
  have h1 := quoted_quote v.data.toList R h0
  rw [← e] at h1
  unfold valueL
  show (if (q ++ R).takeWhile tokB = [] then _ else _) = _
  rw [if_pos (by rw [e]; exact (dw_first tokB _ (by decide)).2), h1]
  show some (bs v.data.toList, (q ++ R).drop q.length) = _
  rw [bs_self, List.drop_left]
theorem told_word (n v : ByteArray) (hn : isL n.data.toList = true) (hv : isL v.data.toList = true) : Told ((n, v), v.data.toList) := by
  obtain ⟨c, t, e, hc, ha⟩ := isL_cons hv
  refine ⟨hn, ⟨c, t, e, .inl hc⟩, fun R hR => ?_⟩
  unfold valueL
  show (if (v.data.toList ++ R).takeWhile tokB = [] then _ else _) = _
  rw [tw_app tokB ha (tw_end tokB (by decide) hR).1, if_neg (by rw [e]; simp), bs_self]
  congr 2
  exact dw_app tokB ha (tw_end tokB (by decide) hR).2
def restT : List (Par × List UInt8) → List UInt8
  | [] => []
  | x :: r => 44 :: 32 :: (parN x.1 x.2 ++ restT r)
theorem rest_ends (r : List (Par × List UInt8)) : Ends (restT r) := by
  cases r with
  | nil => exact .inl rfl
  | cons x r => exact .inr ⟨_, rfl⟩
theorem join_rest : ∀ (r : List (Par × List UInt8)) (x : Par × List UInt8), Lib.join ((x :: r).map fun y => parN y.1 y.2) [44, 32] = parN x.1 x.2 ++ restT r
  | [], x => by simp [Lib.join, restT]
  | y :: r, x => by
    have ih := join_rest r y
    have e : Lib.join ((x :: y :: r).map fun y => parN y.1 y.2) [44, 32] = parN x.1 x.2 ++ ([44, 32] ++ Lib.join ((y :: r).map fun y => parN y.1 y.2) [44, 32]) := by simp [Lib.join, List.intercalate]
    rw [e, ih, restT]
    rfl
theorem params_tell : ∀ (r : List (Par × List UInt8)) (x : Par × List UInt8) (acc : List Par) (f : Nat), (∀ q ∈ x :: r, Told q) → Unlike acc ((x :: r).map (·.1)) → acc.length + (x :: r).length ≤ 16 →
    (parN x.1 x.2 ++ restT r).length < f → paramsL f acc (parN x.1 x.2 ++ restT r) = .ok (acc ++ (x :: r).map (·.1), [])
  | r, x, acc, 0, _, _, _, hf => absurd hf (Nat.not_lt_zero _)
  | r, x, acc, f + 1, hi, hu, hl, hf => by
    have hE := rest_ends r
    have hx := hi x (by simp)
    obtain ⟨c0, t0, e0, hc0⟩ := hx.first
    have hb0 : (x.2 ++ restT r).dropWhile blankB = x.2 ++ restT r := by
      rw [e0]
      exact (dw_first blankB _ (first_kinds hc0).2.2.1).1
    have hpar : paramL acc (parN x.1 x.2 ++ restT r) = .ok (x.1, restT r) := by
      unfold paramL
      rw [name_is hx.name]
      simp only [hb0, hx.reads _ hE]
      have h1 := hu.1
      simp only at h1
      rw [h1, if_neg (by simp), if_neg (by simp at hl; omega)]
    rw [paramsL, hpar]
    simp only [(tw_end blankB (by decide) hE).2, stops_end hE, if_true]
    cases r with
    | nil => rfl
    | cons q r =>
      have hq := hi q (by simp)
      obtain ⟨c, t, e, hc, _⟩ := isL_cons hq.name
      have hg : (restT (q :: r)).dropWhile gapB = parN q.1 q.2 ++ restT r := by
        rw [restT, List.dropWhile_cons_of_pos (by decide), List.dropWhile_cons_of_pos (by decide)]
        unfold parN
        rw [e]
        exact (dw_first gapB _ ((kinds c).1 hc).2.2.2.2).1
      rw [hg, name_is hq.name]
      simp only [Option.isSome_some, if_true]
      rw [params_tell r q (acc ++ [x.1]) f (fun y hy => hi y (by simp at hy ⊢; exact .inr hy)) hu.2 (by simp at hl ⊢; omega) (by simp [restT] at hf ⊢; omega)]
      simp
theorem token_no (x : Par × List UInt8) (R : List UInt8) (hx : Told x) : tokenL (parN x.1 x.2 ++ R) = none := by
  obtain ⟨c, t, e, hc⟩ := hx.first
  obtain ⟨k1, k2, k3, k4⟩ := first_kinds hc
  have hn := hx.name
  unfold tokenL
  rw [if_neg]
  rintro ⟨_, hs⟩
  unfold parN at hs
  by_cases ha : x.1.1.data.toList.all tkB = true
  · rw [List.append_assoc, List.cons_append, dw_app tkB ha (dw_first tkB _ (by decide)).1, List.dropWhile_cons_of_pos (by decide), e, List.cons_append, (dw_first eqB _ k4).1, (dw_first blankB _ k3).1] at hs
    unfold stopsL at hs
    exact k2 (by simpa using hs)
  · obtain ⟨c', t', e', _, hall⟩ := isL_cons hn
    have hdw : ∃ d u, x.1.1.data.toList.dropWhile tkB = d :: u ∧ d ∈ x.1.1.data.toList := by
      cases h : x.1.1.data.toList.dropWhile tkB with
      | nil => exact absurd ((dw_nil _ _).1 h) ha
      | cons d u => exact ⟨d, u, rfl, (List.dropWhile_sublist _).subset (by rw [h]; simp)⟩
    obtain ⟨d, u, hd, hmem⟩ := hdw
    have hdt : tokB d = true := List.all_eq_true.1 hall d hmem
    obtain ⟨j1, j2, _, j3, _⟩ := (kinds d).1 hdt
    have hfull : (x.1.1.data.toList ++ 61 :: x.2 ++ R).dropWhile tkB = d :: (u ++ 61 :: x.2 ++ R) := by
      rw [List.append_assoc, List.dropWhile_append, hd]
      simp
    rw [hfull, (dw_first eqB _ (beq_eq_false_iff_ne.2 j1)).1, (dw_first blankB _ j3).1] at hs
    unfold stopsL at hs
    exact j2 (by simpa using hs)
/-- What is told so is read. -/
theorem ask_told (s : List UInt8) (x : Par × List UInt8) (r : List (Par × List UInt8)) (hs : isL s = true) (hi : ∀ q ∈ x :: r, Told q) (hu : Unlike [] ((x :: r).map (·.1))) (hl : (x :: r).length ≤ 16) :
    askL (s ++ 32 :: (parN x.1 x.2 ++ restT r)) = .ok [⟨bs s, ⟨#[]⟩, (x :: r).map (·.1)⟩] := by
  obtain ⟨c, s', es, hc, hall⟩ := isL_cons hs
  obtain ⟨d, u', ed, hd, _⟩ := isL_cons (hi x (by simp)).name
  have hne : s ≠ [] := by rw [es]; simp
  have h0 : (s ++ 32 :: (parN x.1 x.2 ++ restT r)).dropWhile gapB = s ++ 32 :: (parN x.1 x.2 ++ restT r) := by
    rw [es]
    exact (dw_first gapB _ ((kinds c).1 hc).2.2.2.2).1
  have hb1 : (32 :: (parN x.1 x.2 ++ restT r)).dropWhile blankB = parN x.1 x.2 ++ restT r := by
    rw [List.dropWhile_cons_of_pos (by decide)]
    unfold parN
    rw [ed]
    exact (dw_first blankB _ ((kinds d).1 hd).2.2.2.1).1
  have hst : stopsL (parN x.1 x.2 ++ restT r) = false := by
    unfold parN
    rw [ed]
    exact beq_eq_false_iff_ne.2 ((kinds d).1 hd).2.1
  have hch : chalL 0 (s ++ 32 :: (parN x.1 x.2 ++ restT r)) = .ok (⟨bs s, ⟨#[]⟩, (x :: r).map (·.1)⟩, []) := by
    unfold chalL
    rw [tw_app tokB hall (dw_first tokB _ (by decide)).2, dw_app tokB hall (dw_first tokB _ (by decide)).1, hb1, hst, if_neg hne, if_neg (by omega), if_neg (by simp), if_neg (by unfold runL; rw [List.takeWhile_cons_of_pos (by decide)]; simp)]
    unfold insideL
    rw [token_no x _ (hi x (by simp))]
    simp only []
    rw [params_tell r x [] _ hi hu (by simpa using hl) (by omega)]
    rfl
  have hlen : ∃ k, (s ++ 32 :: (parN x.1 x.2 ++ restT r)).length = k + 1 := ⟨s.length + (parN x.1 x.2 ++ restT r).length, by simp; omega⟩
  obtain ⟨k, hk⟩ := hlen
  unfold askL
  rw [hk, parseL, h0, if_neg (by rw [es]; simp)]
  show (match chalL 0 (s ++ 32 :: (parN x.1 x.2 ++ restT r)) with | Except.error e => Except.error e | Except.ok (x, u) => parseL (k + 1) ([] ++ [x]) u) = _
  rw [hch]
  rfl
end Go.Proofs.YtgajhmmildbkfaaGreatDoor

/- The first parameter of a kind, by the library's own function. -/
namespace Go.Proofs.YtgajhmmildbkfaaGreatDoor
open Go.RowKit

theorem find_take {f : Par → Bool} {ps : List Par} {k : Nat} {p : Par} (h : (ps.take k).find? f = none) (hk : ps[k]? = some p) : (f p = false → (ps.take (k + 1)).find? f = none) ∧ (f p = true → ps.find? f = some p) := by
  obtain ⟨hk1, e⟩ := List.getElem?_eq_some_iff.1 hk
  refine ⟨fun hf => ?_, fun hf => ?_⟩
  · rw [List.take_succ_eq_append_getElem hk1, List.find?_append, h, e]
    simp [hf]
  · have e2 : ps = ps.take k ++ p :: ps.drop (k + 1) := by rw [← e, ← List.drop_eq_getElem_cons hk1, List.take_append_drop]
    rw [e2, List.find?_append, h]
    simp [hf]
set_option maxRecDepth 100000 in
set_option maxHeartbeats 2000000 in
theorem indexP_any (K : Nat) (c : Value) (f : Par → Bool) (ps : List Par) (a0 : Option Addr) (len cap b off : Nat) (hlen : len ≤ 1000000) (w : World) (hx : Pars w a0 len b off ps)
    (says : ∀ w', Below w.heap.size w w' → ∀ p ∈ ps, Calls Tryz.prog K #[.agg #[.string p.1, .string p.2], c] w' fun e w'' => e = .returned (.bool (f p)) ∧ Below w'.heap.size w' w'')
    (hen : ∀ (args : Array Value) (w : World), (callFunc K args).run Tryz.prog w = .ok (.enter K args) w) :
    Calls Tryz.prog 63 #[.slice a0 len cap, .func (.func K) #[] #[c]] w fun e w' => (∃ r : Int, e = .returned (.int .i64 r) ∧ Hid (r = -1 ∧ ps.find? f = none ∨ ∃ (k : Nat) (p : Par), r = k ∧ ps[k]? = some p ∧ ps.find? f = some p)) ∧ Below w.heap.size w w' := by
  have HX : Hid (Pars w a0 len b off ps) := hx
  have hl := hx.len_eq
  clear hx
  go_enter Tryz.func63, Tryz.ntmps63
  go_wp2
  go_loopw [8] (fun i wr => ∃ (k : Nat), k ≤ len ∧ i = .int .i64 k ∧ Hid ((ps.take k).find? f = none) ∧ Below w.heap.size w wr) (fun i _ => len - (intOf i).toNat)
  case atStart => exact ⟨0, Nat.zero_le _, rfl, rfl, Below.refl _ _⟩
  case round =>
    obtain ⟨k, hk, rfl, HK, hb⟩ := hrel
    by_cases hlt : k < len
    · obtain ⟨p, hpk⟩ : ∃ p, ps[k]? = some p := ⟨ps[k]'(by omega), List.getElem?_eq_getElem (by omega)⟩
      have HP : Hid (ps[k]? = some p) := hpk
      have hs := says wr hb p (List.mem_of_getElem? hpk)
      obtain ⟨ha0, hbl⟩ := HX.out.lies (by omega)
      subst ha0
      have hc1 : wr.cell? ⟨b, off + k * 2, none⟩ = some (.string p.1) := (hb.cell (p := ⟨b, off + k * 2, none⟩) hbl).trans (HX.out.one k p hpk)
      have hc2 : wr.cell? ⟨b, off + k * 2 + 1, none⟩ = some (.string p.2) := (hb.cell (p := ⟨b, off + k * 2 + 1, none⟩) hbl).trans (HX.out.two k p hpk)
      clear hpk
      obtain ⟨hF, hT⟩ := find_take HK.out HP.out
      have hbs : w.heap.size ≤ wr.heap.size := hb.size
      cases hf : f p
      · have HS : Hid ((ps.take (k + 1)).find? f = none) := hF hf
        clear hF hT
        go_wp2_with fail
        refine hs.mono ?_
        rintro e w2 ⟨rfl, hb2⟩
        rw [hf]
        go_wp2
        go_roundw
        case rel => exact ⟨k + 1, by omega, by go_num, HS, hb.trans (hb2.mono hbs)⟩
        case measure => simp [intOf]; omega
      · have HS : Hid (ps.find? f = some p) := hT hf
        clear hF hT
        go_wp2_with fail
        refine hs.mono ?_
        rintro e w2 ⟨rfl, hb2⟩
        rw [hf]
        go_wp2
        go_ret
        exact ⟨⟨_, rfl, .inr ⟨k, p, rfl, HP, HS⟩⟩, hb.trans (hb2.mono hbs)⟩
    · have HS : Hid (ps.find? f = none) := by
        have := HK.out
        rw [List.take_of_length_le (by omega)] at this
        exact this
      go_wp2
      go_ret
      exact ⟨⟨_, rfl, .inl ⟨rfl, HS⟩⟩, hb⟩
set_option maxHeartbeats 1000000 in
theorem findOne_any (p : Par) (n : ByteArray) (hp : p.1.size ≤ 4000) (hn : n.size ≤ 4000) (c : Nat) (w : World) (hc : w.cell? ⟨c, 0, none⟩ = some (.string n)) :
    Calls Tryz.prog 64 #[.agg #[.string p.1, .string p.2], .pointer (some ⟨c, 0, none⟩)] w fun e w' => e = .returned (.bool (sameL p.1.data.toList n.data.toList)) ∧ Below w.heap.size w w' := by
  have hcl : c < w.heap.size := by
    rcases Nat.lt_or_ge c w.heap.size with h1 | h1
    · exact h1
    · simp [World.cell?, Array.getElem?_eq_none h1] at hc
  go_enter Tryz.func64, Tryz.ntmps64
  go_wp2_with fail
  refine (same_any _ _ hp hn _).mono ?_
  rintro e w2 ⟨rfl, hb2⟩
  go_wp2
  go_ret
  exact ⟨rfl, ((Below.refl _ _).alloc (Nat.le_refl _) _).trans (hb2.mono (by simp))⟩
set_option maxHeartbeats 1000000 in
theorem find_any (ps : List Par) (n : ByteArray) (hps : ∀ p ∈ ps, p.1.size ≤ 4000) (hn : n.size ≤ 4000) (a0 : Option Addr) (len cap b off : Nat) (hlen : len ≤ 1000000) (w : World) (hx : Pars w a0 len b off ps) :
    Calls Tryz.prog 36 #[.slice a0 len cap, .string n] w fun e w' => (∃ r : Int, e = .returned (.int .i64 r) ∧ Hid (r = -1 ∧ ps.find? (fun p => sameL p.1.data.toList n.data.toList) = none ∨ ∃ (k : Nat) (p : Par), r = k ∧ ps[k]? = some p ∧ ps.find? (fun p => sameL p.1.data.toList n.data.toList) = some p)) ∧ Below w.heap.size w w' := by
  have hb1 : Below w.heap.size w (w.alloc (.cells #[.string n] 9)) := (Below.refl _ _).alloc (Nat.le_refl _) _
  have HX : Hid (Pars (w.alloc (.cells #[.string n] 9)) a0 len b off ps) := hx.below hb1
  have hcell : (w.alloc (.cells #[.string n] 9)).cell? ⟨w.heap.size, 0, none⟩ = some (.string n) := World.cell?_alloc_mark _ _ _ _ _
  have HS : Hid (∀ w', Below (w.alloc (.cells #[.string n] 9)).heap.size (w.alloc (.cells #[.string n] 9)) w' → ∀ p ∈ ps, Calls Tryz.prog 64 #[.agg #[.string p.1, .string p.2], .pointer (some ⟨w.heap.size, 0, none⟩)] w' fun e w'' => e = .returned (.bool (sameL p.1.data.toList n.data.toList)) ∧ Below w'.heap.size w' w'') := by
    intro w' hb p hp
    refine findOne_any p n (hps p hp) hn _ w' ?_
    rw [hb.cell (p := ⟨w.heap.size, 0, none⟩) (by simp)]
    exact hcell
  clear hx hcell
  go_enter Tryz.func36, Tryz.ntmps36
  go_wp2_with fail
  refine (indexP_any _ _ _ ps a0 len cap b off hlen _ HX.out HS.out (enters_at Tryz.func64 (by kernel_rfl) rfl)).mono ?_
  rintro e w2 ⟨⟨r, rfl, HR⟩, hb2⟩
  go_wp2
  go_ret
  exact ⟨⟨r, rfl, HR⟩, hb1.trans (hb2.mono (by simp))⟩
end Go.Proofs.YtgajhmmildbkfaaGreatDoor

/- The library's contracts that are leant on, laid at this program's numbers. -/
namespace Go.Proofs.YtgajhmmildbkfaaGreatDoor
open Go.Shelf Go.RowKit
def laysM316_ren : Go.Shelf.Ren := ⟨fun | 316 => 65 | n => n, fun | 9 => 9 | 3 => 3 | 4 => 4 | 37 => 83 | 0 => 0 | 127 => 110 | 5 => 5 | n => n, fun | n => n⟩
theorem laysM316 : Go.Proofs.LaysM.n316 Tryz.prog laysM316_ren := {
  mixed := by kernel_rfl
  f316 := Tryz.func65.trans (congrArg some (by kernel_rfl))
  t0 := Tryz.underlying0
  a0 := Tryz.isAgg0
  z0 := Tryz.sizeOf0
  v0 := Tryz.zeroValue0
  t3 := Tryz.underlying3
  a3 := Tryz.isAgg3
  z3 := Tryz.sizeOf3
  v3 := Tryz.zeroValue3
  t4 := Tryz.underlying4
  a4 := Tryz.isAgg4
  z4 := Tryz.sizeOf4
  v4 := Tryz.zeroValue4
  t9 := Tryz.underlying9
  a9 := Tryz.isAgg9
  z9 := Tryz.sizeOf9
  v9 := Tryz.zeroValue9
  t37 := Tryz.underlying83
  a37 := Tryz.isAgg83
  z37 := Tryz.sizeOf83
  v37 := Tryz.zeroValue83
  t127 := Tryz.underlying110
  a127 := Tryz.isAgg110
  z127 := Tryz.sizeOf110
  v127 := Tryz.zeroValue110
  t5 := Tryz.underlying5
  a5 := Tryz.isAgg5
  z5 := Tryz.sizeOf5
  v5 := Tryz.zeroValue5
  i0 := by kernel_rfl
  i3 := by kernel_rfl
  i4 := by kernel_rfl
  i5 := by kernel_rfl
  i9 := by kernel_rfl
  i37 := by kernel_rfl
  i127 := by kernel_rfl }
end Go.Proofs.YtgajhmmildbkfaaGreatDoor

/- A text once more, by the library. -/
namespace Go.Proofs.YtgajhmmildbkfaaGreatDoor
open Go.RowKit Go.Shelf

theorem clone_any (s : ByteArray) (hs : s.size ≤ 20000) (w : World) :
    Calls Tryz.prog 37 #[.string s] w fun e w' => e = .returned (.string s) ∧ Below w.heap.size w w' := by
  have hc : ∀ w, Calls Tryz.prog 65 #[.string s] w fun e w' => e = .returned (.string s) ∧ Below w.heap.size w w' := fun w => Any.stringslite_Clone laysM316 s w (by omega)
  go_enter Tryz.func37, Tryz.ntmps37
  go_wp2_with (go_at_call 65; refine (hc _).mono ?_; rintro e w' ⟨rfl, hb⟩)
  go_ret
  exact ⟨rfl, hb⟩
end Go.Proofs.YtgajhmmildbkfaaGreatDoor

/- The value of a parameter, by the program. -/
namespace Go.Proofs.YtgajhmmildbkfaaGreatDoor
open Go.RowKit

/-- The value of a parameter. -/
def getL (ps : List Par) (n : List UInt8) : Option ByteArray := (ps.find? fun p => sameL p.1.data.toList n).map (·.2)
/-- Names and values that are not too long. -/
def Few (ps : List Par) : Prop := ps.length ≤ 1000000 ∧ ∀ p ∈ ps, p.1.size ≤ 3000 ∧ p.2.size ≤ 3000
set_option maxHeartbeats 1000000 in
theorem get_none (c : ChV) (n : ByteArray) (hf : Few c.x.params) (hn : n.size ≤ 3000) (w : World) (hx : ChOk w c) (hg : getL c.x.params n.data.toList = none) :
    Calls Tryz.prog 13 #[.agg #[.string c.x.scheme, .string c.x.token, .slice c.a c.len c.cap], .string n] w fun e w' => e = .returned (.tuple #[.string ⟨#[]⟩, .bool false]) ∧ Below w.heap.size w w' := by
  have hb1 : Below w.heap.size w (w.alloc (.cells #[.string c.x.scheme, .string c.x.token, .slice c.a c.len c.cap] 38)) := (Below.refl _ _).alloc (Nat.le_refl _) _
  have HX : Hid (ChOk (w.alloc (.cells #[.string c.x.scheme, .string c.x.token, .slice c.a c.len c.cap] 38)) c) := hx.below hb1
  have HF : Hid (Few c.x.params) := hf
  have HG : Hid (c.x.params.find? (fun p => sameL p.1.data.toList n.data.toList) = none) := by
    have := hg
    unfold getL at this
    exact Option.map_eq_none_iff.1 this
  clear hx hf hg
  go_enter Tryz.func13, Tryz.ntmps13
  go_wp2_with fail
  refine (find_any c.x.params n (fun p hp => Nat.le_trans (HF.out.2 p hp).1 (by omega)) (by omega) c.a c.len c.cap c.b c.off HF.out.1 _ HX.out).mono ?_
  rintro e w2 ⟨⟨r, rfl, HR⟩, hb2⟩
  have hr : r = -1 := by
    rcases HR.out with ⟨h, _⟩ | ⟨k, p, _, _, h⟩
    · exact h
    · rw [HG.out] at h; cases h
  subst hr
  go_wp2
  go_ret2
  exact ⟨rfl, hb1.trans (hb2.mono (by simp))⟩
set_option maxHeartbeats 1000000 in
theorem get_some (c : ChV) (n v : ByteArray) (hf : Few c.x.params) (hn : n.size ≤ 3000) (w : World) (hx : ChOk w c) (hg : getL c.x.params n.data.toList = some v) :
    Calls Tryz.prog 13 #[.agg #[.string c.x.scheme, .string c.x.token, .slice c.a c.len c.cap], .string n] w fun e w' => e = .returned (.tuple #[.string v, .bool true]) ∧ Below w.heap.size w w' := by
  have hb1 : Below w.heap.size w (w.alloc (.cells #[.string c.x.scheme, .string c.x.token, .slice c.a c.len c.cap] 38)) := (Below.refl _ _).alloc (Nat.le_refl _) _
  have HX : Hid (ChOk (w.alloc (.cells #[.string c.x.scheme, .string c.x.token, .slice c.a c.len c.cap] 38)) c) := hx.below hb1
  have HF : Hid (Few c.x.params) := hf
  have HG : Hid (∃ p, c.x.params.find? (fun p => sameL p.1.data.toList n.data.toList) = some p ∧ p.2 = v) := by
    have := hg
    unfold getL at this
    exact Option.map_eq_some_iff.1 this
  clear hx hf hg
  go_enter Tryz.func13, Tryz.ntmps13
  go_wp2_with fail
  refine (find_any c.x.params n (fun p hp => Nat.le_trans (HF.out.2 p hp).1 (by omega)) (by omega) c.a c.len c.cap c.b c.off HF.out.1 _ HX.out).mono ?_
  rintro e w2 ⟨⟨r, rfl, HR⟩, hb2⟩
  obtain ⟨k, hr, hk, hcell, hkl, hvz, hlies⟩ : ∃ k : Nat, r = k ∧ k < c.len ∧ w2.cell? ⟨c.b, c.off + k * 2 + 1, none⟩ = some (.string v) ∧ c.len ≤ 1000000 ∧ v.size ≤ 3000 ∧ c.a = some ⟨c.b, c.off, none⟩ := by
    obtain ⟨q, hq, hqv⟩ := HG.out
    rcases HR.out with ⟨_, h⟩ | ⟨k, p, hr, hk, h⟩
    · rw [hq] at h; cases h
    · rw [hq] at h
      cases h
      have hkl := (List.getElem?_eq_some_iff.1 hk).1
      have h2 := HX.out.below hb2
      refine ⟨k, hr, hkl, ?_, HF.out.1, ?_, ?_⟩
      · rw [← hqv]; exact h2.two k _ hk
      · rw [← hqv]; exact (HF.out.2 _ (List.mem_of_getElem? hk)).2
      · exact (h2.lies (by show 0 < c.len; unfold ChV.len; omega)).1
  subst hr
  have hbx : w2.cell? ⟨w.heap.size, 2, none⟩ = some (.slice c.a c.len c.cap) := (hb2.cell (p := ⟨w.heap.size, 2, none⟩) (by simp)).trans (World.cell?_alloc_mark _ _ _ _ _)
  rw [hlies] at hbx
  have hk0 : (k : Int) < (c.len : Int) := by omega
  have hkn : ¬ (k : Int) < 0 := by omega
  go_wp2_with (go_at_call 37; refine (clone_any v (by omega) _).mono ?_; rintro e w3 ⟨rfl, hb3⟩)
  go_ret2
  exact ⟨rfl, (hb1.trans (hb2.mono (by simp))).trans (hb3.mono (Nat.le_trans (by simp) hb2.size))⟩
theorem getL_none {ps : List Par} {n : List UInt8} (h : ps.find? (fun p => sameL p.1.data.toList n) = none) : getL ps n = none := by unfold getL; rw [h]; rfl
theorem getL_some {ps : List Par} {n : List UInt8} {p : Par} (h : ps.find? (fun p => sameL p.1.data.toList n) = some p) : getL ps n = some p.2 := by unfold getL; rw [h]; rfl
/-- What is answered where a parameter may be there, or not. -/
def optV (o : Option ByteArray) : Value := .tuple #[.string (o.getD ⟨#[]⟩), .bool o.isSome]
theorem get_any (c : ChV) (n : ByteArray) (hf : Few c.x.params) (hn : n.size ≤ 3000) (w : World) (hx : ChOk w c) :
    Calls Tryz.prog 13 #[.agg #[.string c.x.scheme, .string c.x.token, .slice c.a c.len c.cap], .string n] w fun e w' => e = .returned (optV (getL c.x.params n.data.toList)) ∧ Below w.heap.size w w' := by
  rcases h : getL c.x.params n.data.toList with _ | v
  · exact get_none c n hf hn w hx h
  · exact get_some c n v hf hn w hx h
end Go.Proofs.YtgajhmmildbkfaaGreatDoor

/- What a challenge asks for, as the document says, over lists of bytes. -/
namespace Go.Proofs.YtgajhmmildbkfaaGreatDoor

/-- A challenge that can be answered. -/
structure AskV where
  scheme : Nat
  realm : ByteArray
  nonce : ByteArray
  opq : ByteArray
  sess : Bool
  qop : ByteArray
  stale : Bool
  domain : List ByteArray
def zeroA : AskV := ⟨0, ⟨#[]⟩, ⟨#[]⟩, ⟨#[]⟩, false, ⟨#[]⟩, false, []⟩
def kRealm : List UInt8 := [114, 101, 97, 108, 109]
def kBasic : List UInt8 := [98, 97, 115, 105, 99]
def kDigest : List UInt8 := [100, 105, 103, 101, 115, 116]
def kNonce : List UInt8 := [110, 111, 110, 99, 101]
def kOpq : List UInt8 := [111, 112, 97, 113, 117, 101]
def kStale : List UInt8 := [115, 116, 97, 108, 101]
def kTrue : List UInt8 := [116, 114, 117, 101]
def kAlgo : List UInt8 := [97, 108, 103, 111, 114, 105, 116, 104, 109]
def kQop : List UInt8 := [113, 111, 112]
def kDomain : List UInt8 := [100, 111, 109, 97, 105, 110]
def kMd5 : List UInt8 := [77, 68, 53]
def kMd5s : List UInt8 := [77, 68, 53, 45, 115, 101, 115, 115]
def kSha : List UInt8 := [83, 72, 65, 45, 50, 53, 54]
def kShas : List UInt8 := [83, 72, 65, 45, 50, 53, 54, 45, 115, 101, 115, 115]
def kAuth : List UInt8 := [97, 117, 116, 104]
def kAuthI : List UInt8 := [97, 117, 116, 104, 45, 105, 110, 116]
/-- The scheme that sums are of (0: none that is known), and whether a nonce of one's own is summed. -/
def algoL : Option ByteArray → Nat × Bool
  | none => (2, false)
  | some v =>
    if sameL v.data.toList kMd5 then (2, false) else if sameL v.data.toList kMd5s then (2, true)
    else if sameL v.data.toList kSha then (3, false) else if sameL v.data.toList kShas then (3, true) else (0, false)
/-- The qop that is answered. -/
def qopL : Option ByteArray → Option ByteArray
  | none => some ⟨#[]⟩
  | some t => match listP 0 (splitL 44 t.data.toList) with
    | .error _ => none
    | .ok ws => if 40 < ws.length then none else if ws.any (sameL · kAuth) then some (bs kAuth) else if ws.any (sameL · kAuthI) then some (bs kAuthI) else none
def slashB : List UInt8 → Bool
  | [] => false
  | c :: _ => c == 47
/-- The paths of a domain. -/
def domL (t : List UInt8) : List ByteArray := ((splitL 32 t).filter slashB).map fun p => bs (cleanL p)
def digestL (ps : List Par) (realm : ByteArray) : Option AskV :=
  if (algoL (getL ps kAlgo)).1 = 0 then none
  else match getL ps kNonce with
    | none => none
    | some n => match qopL (getL ps kQop) with
      | none => none
      | some q => some ⟨(algoL (getL ps kAlgo)).1, realm, n, (getL ps kOpq).getD ⟨#[]⟩, (algoL (getL ps kAlgo)).2, q, sameL ((getL ps kStale).getD ⟨#[]⟩).data.toList kTrue, domL ((getL ps kDomain).getD ⟨#[]⟩).data.toList⟩
def knownL (x : Chal) : Option AskV :=
  match getL x.params kRealm with
  | none => none
  | some r => if sameL x.scheme.data.toList kBasic then some ⟨1, r, ⟨#[]⟩, ⟨#[]⟩, false, ⟨#[]⟩, false, []⟩ else if sameL x.scheme.data.toList kDigest then digestL x.params r else none
/-- An ask as a value, its paths at dv. -/
def askVal (a : AskV) (dv : Value) : Value := .agg #[.int .i64 (a.scheme : Int), .string a.realm, .string a.nonce, .string a.opq, .bool a.sess, .string a.qop, .bool a.stale, dv]
theorem algo_le (o : Option ByteArray) : (algoL o).1 ≤ 3 := by
  unfold algoL
  split
  · decide
  · split
    · decide
    · split
      · decide
      · split
        · decide
        · split <;> decide
theorem known_le (x : Chal) (a : AskV) (h : knownL x = some a) : 1 ≤ a.scheme ∧ a.scheme ≤ 3 := by
  unfold knownL at h
  split at h
  · cases h
  · split at h
    · cases h; exact ⟨by show 1 ≤ 1; omega, by show 1 ≤ 3; omega⟩
    · split at h
      · unfold digestL at h
        split at h
        · cases h
        · rename_i h0
          split at h
          · cases h
          · split at h
            · cases h
            · cases h
              have := algo_le (getL x.params kAlgo)
              exact ⟨by show 1 ≤ (algoL (getL x.params kAlgo)).1; omega, this⟩
      · cases h
end Go.Proofs.YtgajhmmildbkfaaGreatDoor

/- What a header that proves a request tells, as a challenge is read, over lists of bytes. -/
namespace Go.Proofs.YtgajhmmildbkfaaGreatDoor

def itemP (x : Item) : Par × List UInt8 := ((bs x.1, bs x.2.1), if x.2.2 then quoteL x.2.1 else x.2.1)
theorem itemT_parN (x : Item) : itemT x = parN (itemP x).1 (itemP x).2 := by
  unfold itemT parN itemP
  rw [bs_data]
def parsI (l : List Item) : List Par := l.map fun x => (bs x.1, bs x.2.1)
theorem told_item (x : Item) (hn : isL x.1 = true) (ho : itemOk x = true) (hw : x.2.2 = false → isL x.2.1 = true) : Told (itemP x) := by
  obtain ⟨n, v, q⟩ := x
  cases q
  · have h := told_word (bs n) (bs v) (by rw [bs_data]; exact hn) (by rw [bs_data]; exact hw rfl)
    rw [bs_data] at h
    exact h
  · refine told_quote (bs n) (bs v) (quoteL v) (by rw [bs_data]; exact hn) ?_
    rw [bs_data]
    unfold quoteO
    rw [if_pos (by simpa [itemOk] using ho)]
theorem hexL_word : ∀ (l : List UInt8), (hexL l).all tokB = true
  | [] => rfl
  | c :: r => by
    have hd : ∀ d : Nat, d < 16 → tokB (dig d) = true := by
      intro d hd
      have : ∀ k : Fin 16, tokB (dig k.val) = true := by decide
      exact this ⟨d, hd⟩
    have := c.toNat_lt
    rw [hexL, List.all_cons, List.all_cons, hd _ (by omega), hd _ (by omega), hexL_word r]
    rfl
theorem dig_tok (d : Nat) (hd : d < 16) : tokB (dig d) = true := by
  have : ∀ k : Fin 16, tokB (dig k.val) = true := by decide
  exact this ⟨d, hd⟩
theorem hexF_word : ∀ (f n : Nat), (hexF f n).all tokB = true
  | 0, _ => rfl
  | f + 1, n => by
    unfold hexF
    split
    · rename_i h
      simp [dig_tok n h]
    · rw [List.all_append, hexF_word f]
      simp [dig_tok (n % 16) (Nat.mod_lt _ (by omega))]
theorem countL_word (n : Nat) : isL (countL n) = true := by
  have h1 := hexD_pos n
  unfold isL countL
  rw [List.all_append, Bool.and_eq_true, Bool.and_eq_true]
  refine ⟨?_, ?_, hexF_word 16 n⟩
  · cases h : hexD n with
    | nil => rw [h] at h1; simp at h1
    | cons c t => simp
  · have h48 : tokB 48 = true := by decide
    rw [List.all_eq_true]
    intro c hc
    rw [List.eq_of_mem_replicate hc]
    exact h48
theorem algT_word (a : PfA) : isL (algT a) = true := by
  unfold algT
  split <;> split <;> decide
theorem qop_word (a : PfA) (h : a.qop.data.toList = qAuth ∨ a.qop.data.toList = qInt) : isL a.qop.data.toList = true := by
  rcases h with h | h <;> rw [h] <;> decide
/-- The names of the items, one of eight ways. -/
theorem items_read (a : PfA) (r : PfR) (n : Nat) (hq : a.qop.data.toList = [] ∨ a.qop.data.toList = qAuth ∨ a.qop.data.toList = qInt) (ho : (items a r n).all itemOk = true) :
    askL (digT (items a r n)) = .ok [⟨bs digW, ⟨#[]⟩, parsI (items a r n)⟩] := by
  have hT : ∀ x ∈ items a r n, Told (itemP x) := by
    intro x hx
    have hox := List.all_eq_true.1 ho x hx
    unfold items fiveI qopI cnI opqI at hx
    simp only [List.mem_append, List.mem_cons, List.not_mem_nil, or_false] at hx
    rcases hx with ((((rfl | rfl | rfl | rfl | rfl) | rfl) | hx) | hx) | hx
    · exact told_item _ (show isL nUser = true by decide) hox (fun e => by cases e)
    · exact told_item _ (show isL nRealm = true by decide) hox (fun e => by cases e)
    · exact told_item _ (show isL nNonce = true by decide) hox (fun e => by cases e)
    · exact told_item _ (show isL nUri = true by decide) hox (fun e => by cases e)
    · exact told_item _ (show isL nResp = true by decide) hox (fun e => by cases e)
    · exact told_item _ (show isL nAlgo = true by decide) hox (fun _ => algT_word a)
    · split at hx
      · cases hx
      · rename_i h0
        simp only [List.mem_cons, List.not_mem_nil, or_false] at hx
        rcases hx with rfl | rfl
        · exact told_item _ (show isL nQop = true by decide) hox (fun _ => qop_word a (by rcases hq with h | h | h; exact absurd h h0; exact .inl h; exact .inr h))
        · exact told_item _ (show isL nNc = true by decide) hox (fun _ => countL_word n)
    · split at hx
      · cases hx
      · simp only [List.mem_cons, List.not_mem_nil, or_false] at hx
        subst hx
        exact told_item _ (show isL nCn = true by decide) hox (fun e => by cases e)
    · split at hx
      · cases hx
      · simp only [List.mem_cons, List.not_mem_nil, or_false] at hx
        subst hx
        exact told_item _ (show isL nOpq = true by decide) hox (fun e => by cases e)
  have hU : Unlike [] (parsI (items a r n)) ∧ (items a r n).length ≤ 16 := by
    unfold items fiveI qopI cnI opqI parsI
    split <;> split <;> split <;> exact ⟨by simp only [List.cons_append, List.nil_append, List.append_nil, List.map_cons, List.map_nil, Unlike, toldL, List.any_nil, List.any_cons, bs_data]; try decide, by simp⟩
  have e : items a r n = (nUser, r.user.data.toList, true) :: (items a r n).tail := rfl
  generalize (items a r n).tail = R at e
  rw [e] at hT hU ⊢
  have h := ask_told digW (itemP (nUser, r.user.data.toList, true)) (R.map itemP) (by decide) (by
    intro q hq
    rw [← List.map_cons] at hq
    obtain ⟨x, hx, rfl⟩ := List.mem_map.1 hq
    exact hT x hx) (by rw [← List.map_cons, List.map_map]; exact hU.1) (by rw [← List.map_cons, List.length_map]; exact hU.2)
  have hj := join_rest (R.map itemP) (itemP (nUser, r.user.data.toList, true))
  rw [← List.map_cons, List.map_map] at hj
  have hjt : ((fun y : Par × List UInt8 => parN y.1 y.2) ∘ itemP) = itemT := by funext x; exact (itemT_parN x).symm
  rw [hjt] at hj
  unfold digT
  rw [hj, h, ← List.map_cons, List.map_map]
  rfl
/-- What the parameters of such a header are. -/
structure Gets (a : PfA) (r : PfR) (n : Nat) (ps : List Par) : Prop where
  user : getL ps nUser = some r.user
  realm : getL ps nRealm = some a.realm
  nonce : getL ps nNonce = some a.nonce
  uri : getL ps nUri = some r.target
  resp : getL ps nResp = some (bs (respL a r n))
  algo : getL ps nAlgo = some (bs (algT a))
  qop : getL ps nQop = if a.qop.data.toList = [] then none else some a.qop
  nc : getL ps nNc = if a.qop.data.toList = [] then none else some (bs (countL n))
  cn : a.qop.data.toList ≠ [] → getL ps nCn = some r.cnonce
  opq : getL ps nOpq = if a.opq.data.toList = [] then none else some a.opq
  stale : getL ps kStale = none
  domain : getL ps kDomain = none
theorem gt {x y : ByteArray} {o : Option ByteArray} (h : o = some x) (e : x = y) : o = some y := by rw [h, e]
theorem items_get (a : PfA) (r : PfR) (n : Nat) : Gets a r n (parsI (items a r n)) := by
  have e1 : bs r.user.data.toList = r.user := bs_self _
  have e2 : bs a.realm.data.toList = a.realm := bs_self _
  have e3 : bs a.nonce.data.toList = a.nonce := bs_self _
  have e4 : bs r.target.data.toList = r.target := bs_self _
  have e5 : bs a.qop.data.toList = a.qop := bs_self _
  have e6 : bs r.cnonce.data.toList = r.cnonce := bs_self _
  have e7 : bs a.opq.data.toList = a.opq := bs_self _
  unfold items fiveI qopI cnI opqI parsI
  generalize hR : respL a r n = R
  generalize hA : algT a = A
  generalize hC : countL n = C
  generalize hQ : a.qop.data.toList = Q at e5
  generalize hO : a.opq.data.toList = O at e7
  generalize r.user.data.toList = U at e1
  generalize a.realm.data.toList = L at e2
  generalize a.nonce.data.toList = N at e3
  generalize r.target.data.toList = T at e4
  generalize r.cnonce.data.toList = K at e6
  by_cases h1 : Q = []
  · by_cases h2 : a.sess = false
    · by_cases h3 : O = []
      · rw [if_pos h1, if_pos ⟨h1, h2⟩, if_pos h3]
        exact ⟨gt rfl e1, gt rfl e2, gt rfl e3, gt rfl e4, by rw [hR]; rfl, by rw [hA]; rfl, by rw [hQ, if_pos h1]; rfl, by rw [hQ, if_pos h1]; rfl, fun h => absurd (hQ.trans h1) h, by rw [hO, if_pos h3]; rfl, rfl, rfl⟩
      · rw [if_pos h1, if_pos ⟨h1, h2⟩, if_neg h3]
        exact ⟨gt rfl e1, gt rfl e2, gt rfl e3, gt rfl e4, by rw [hR]; rfl, by rw [hA]; rfl, by rw [hQ, if_pos h1]; rfl, by rw [hQ, if_pos h1]; rfl, fun h => absurd (hQ.trans h1) h, by rw [hO, if_neg h3]; exact gt rfl e7, rfl, rfl⟩
    · by_cases h3 : O = []
      · rw [if_pos h1, if_neg (fun h => h2 h.2), if_pos h3]
        exact ⟨gt rfl e1, gt rfl e2, gt rfl e3, gt rfl e4, by rw [hR]; rfl, by rw [hA]; rfl, by rw [hQ, if_pos h1]; rfl, by rw [hQ, if_pos h1]; rfl, fun h => absurd (hQ.trans h1) h, by rw [hO, if_pos h3]; rfl, rfl, rfl⟩
      · rw [if_pos h1, if_neg (fun h => h2 h.2), if_neg h3]
        exact ⟨gt rfl e1, gt rfl e2, gt rfl e3, gt rfl e4, by rw [hR]; rfl, by rw [hA]; rfl, by rw [hQ, if_pos h1]; rfl, by rw [hQ, if_pos h1]; rfl, fun h => absurd (hQ.trans h1) h, by rw [hO, if_neg h3]; exact gt rfl e7, rfl, rfl⟩
  · by_cases h3 : O = []
    · rw [if_neg h1, if_neg (fun h => h1 h.1), if_pos h3]
      exact ⟨gt rfl e1, gt rfl e2, gt rfl e3, gt rfl e4, by rw [hR]; rfl, by rw [hA]; rfl, by rw [hQ, if_neg h1]; exact gt rfl e5, by rw [hQ, if_neg h1, hC]; rfl, fun _ => gt rfl e6, by rw [hO, if_pos h3]; rfl, rfl, rfl⟩
    · rw [if_neg h1, if_neg (fun h => h1 h.1), if_neg h3]
      exact ⟨gt rfl e1, gt rfl e2, gt rfl e3, gt rfl e4, by rw [hR]; rfl, by rw [hA]; rfl, by rw [hQ, if_neg h1]; exact gt rfl e5, by rw [hQ, if_neg h1, hC]; rfl, fun _ => gt rfl e6, by rw [hO, if_neg h3]; exact gt rfl e7, rfl, rfl⟩
theorem algo_is (a : PfA) (hs : a.scheme = 2 ∨ a.scheme = 3) : algoL (some (bs (algT a))) = (a.scheme.toNat, a.sess) := by
  unfold algT
  rcases hs with h | h <;> rw [h] <;> cases a.sess <;> rfl
theorem empty_list {s : ByteArray} (h : s.data.toList = []) : s = ⟨#[]⟩ := by rw [← bs_self s, h]; rfl
theorem items_known (a : PfA) (r : PfR) (n : Nat) (hs : a.scheme = 2 ∨ a.scheme = 3) (hq : a.qop.data.toList = [] ∨ a.qop.data.toList = qAuth ∨ a.qop.data.toList = qInt) :
    knownL ⟨bs digW, ⟨#[]⟩, parsI (items a r n)⟩ = some ⟨a.scheme.toNat, a.realm, a.nonce, a.opq, a.sess, a.qop, false, []⟩ := by
  have G := items_get a r n
  generalize parsI (items a r n) = ps at G
  have g1 : getL ps kRealm = some a.realm := G.realm
  have g2 : getL ps kNonce = some a.nonce := G.nonce
  have g3 : getL ps kAlgo = some (bs (algT a)) := G.algo
  have g4 : qopL (getL ps kQop) = some a.qop := by
    have h := G.qop
    have hk : getL ps kQop = getL ps nQop := rfl
    rw [hk, h]
    rcases hq with h | h | h
    · rw [if_pos h, empty_list h]; rfl
    · have e : a.qop = bs qAuth := by rw [← h, bs_self]
      rw [if_neg (by rw [h]; decide), e]
      rfl
    · have e : a.qop = bs qInt := by rw [← h, bs_self]
      rw [if_neg (by rw [h]; decide), e]
      rfl
  have g5 : (getL ps kOpq).getD ⟨#[]⟩ = a.opq := by
    have h := G.opq
    have hk : getL ps kOpq = getL ps nOpq := rfl
    rw [hk, h]
    split
    · rename_i h0; exact (empty_list h0).symm
    · rfl
  have s1 : sameL (bs digW).data.toList kBasic = false := by decide
  have s2 : sameL (bs digW).data.toList kDigest = true := by decide
  have s3 : a.scheme.toNat ≠ 0 := by rcases hs with h | h <;> rw [h] <;> decide
  unfold knownL
  simp only [g1, s1, s2]
  unfold digestL
  rw [g3, algo_is a hs, if_neg s3, g2]
  simp only [g4, g5, G.stale, G.domain]
  rfl
end Go.Proofs.YtgajhmmildbkfaaGreatDoor

/- The library's contracts that are leant on, laid at this program's numbers. -/
namespace Go.Proofs.YtgajhmmildbkfaaGreatDoor
open Go.Shelf Go.RowKit
def lays219_ren : Go.Shelf.Ren := ⟨fun | 219 => 100 | 217 => 101 | 225 => 125 | 224 => 126 | 267 => 127 | 266 => 128 | 314 => 139 | n => n, fun | 9 => 9 | 3 => 3 | 4 => 4 | 5 => 5 | 46 => 97 | 146 => 133 | 51 => 114 | n => n, fun | 1 => 5 | n => n⟩
theorem lays219 : Go.Proofs.Lays.n219 Tryz.prog lays219_ren := {
  mixed := by kernel_rfl
  f217 := Tryz.func101.trans (congrArg some (by kernel_rfl))
  f219 := Tryz.func100.trans (congrArg some (by kernel_rfl))
  f224 := Tryz.func126.trans (congrArg some (by kernel_rfl))
  f225 := Tryz.func125.trans (congrArg some (by kernel_rfl))
  f266 := Tryz.func128.trans (congrArg some (by kernel_rfl))
  f267 := Tryz.func127.trans (congrArg some (by kernel_rfl))
  f314 := Tryz.func139.trans (congrArg some (by kernel_rfl))
  t3 := Tryz.underlying3
  a3 := Tryz.isAgg3
  z3 := Tryz.sizeOf3
  v3 := Tryz.zeroValue3
  t4 := Tryz.underlying4
  a4 := Tryz.isAgg4
  z4 := Tryz.sizeOf4
  v4 := Tryz.zeroValue4
  t5 := Tryz.underlying5
  a5 := Tryz.isAgg5
  z5 := Tryz.sizeOf5
  v5 := Tryz.zeroValue5
  t9 := Tryz.underlying9
  a9 := Tryz.isAgg9
  z9 := Tryz.sizeOf9
  v9 := Tryz.zeroValue9
  t46 := Tryz.underlying97
  a46 := Tryz.isAgg97
  z46 := Tryz.sizeOf97
  v46 := Tryz.zeroValue97
  t51 := Tryz.underlying114
  a51 := Tryz.isAgg114
  z51 := Tryz.sizeOf114
  v51 := Tryz.zeroValue114
  t146 := Tryz.underlying133
  a146 := Tryz.isAgg133
  z146 := Tryz.sizeOf133
  v146 := Tryz.zeroValue133
  g1 := by kernel_rfl }
end Go.Proofs.YtgajhmmildbkfaaGreatDoor

/- Where a byte stands in a list. -/
namespace Go.Proofs.YtgajhmmildbkfaaGreatDoor
open Go.RowKit

/-- Where a byte stands in a list; below 0: nowhere. -/
def ixOf (l : List UInt8) (c : UInt8) : Int := Lib.indexByte l c
theorem ixOf_cases (l : List UInt8) (c : UInt8) : (ixOf l c = -1 ∧ c ∉ l) ∨ ∃ n : Nat, n < l.length ∧ ixOf l c = n ∧ l.getD n 0 = c := by
  unfold ixOf
  induction l with
  | nil => exact .inl ⟨rfl, by simp⟩
  | cons b r ih =>
    unfold Lib.indexByte
    by_cases hb : b = c
    · subst hb
      exact .inr ⟨0, by simp, by simp, rfl⟩
    · rw [if_neg (by simpa using hb)]
      rcases ih with ⟨h1, h2⟩ | ⟨n, h1, h2, h3⟩
      · exact .inl ⟨by rw [h1]; rfl, by simp [h2, Ne.symm hb]⟩
      · refine .inr ⟨n + 1, by simpa using h1, ?_, by simpa using h3⟩
        rw [h2, if_neg (by simp)]
        simp

end Go.Proofs.YtgajhmmildbkfaaGreatDoor

/- What stands between a text's marks, by where the next mark stands. -/
namespace Go.Proofs.YtgajhmmildbkfaaGreatDoor
open Go.RowKit

theorem ixOf_first (l : List UInt8) (c : UInt8) : (ixOf l c = -1 ∧ c ∉ l) ∨ ∃ n : Nat, n < l.length ∧ ixOf l c = n ∧ c ∉ l.take n ∧ l = l.take n ++ c :: l.drop (n + 1) := by
  unfold ixOf
  induction l with
  | nil => exact .inl ⟨rfl, by simp⟩
  | cons b r ih =>
    unfold Lib.indexByte
    by_cases hb : b = c
    · subst hb
      exact .inr ⟨0, by simp, by simp, by simp, rfl⟩
    · rw [if_neg (by simpa using hb)]
      rcases ih with ⟨h1, h2⟩ | ⟨n, h1, h2, h3, h4⟩
      · exact .inl ⟨by rw [h1]; rfl, by simp [h2, Ne.symm hb]⟩
      · refine .inr ⟨n + 1, by simpa using h1, ?_, by simp [h3, Ne.symm hb], by simp only [List.take_succ_cons, List.drop_succ_cons, List.cons_append]; rw [← h4]⟩
        rw [h2, if_neg (by simp)]
        simp

theorem extract_data (s : ByteArray) (a b : Nat) : (s.extract a b).data.toList = (s.data.toList.drop a).take (b - a) := by
  rw [ByteArray.data_extract, Array.toList_extract, List.extract_eq_take_drop]
theorem upto_data (s : ByteArray) (b : Nat) : (s.extract 0 b).data.toList = s.data.toList.take b := by rw [extract_data]; simp
theorem from_data (s : ByteArray) (a : Nat) : (s.extract a s.size).data.toList = s.data.toList.drop a := by
  rw [extract_data, List.take_of_length_le]
  simp
theorem bs_of {s : ByteArray} {l : List UInt8} (h : s.data.toList = l) : s = bs l := by rw [← h, bs_self]
/-- The parts of a text, as texts. -/
def partsOf (c : UInt8) (s : ByteArray) : List ByteArray := (splitL c s.data.toList).map bs
theorem partsOf_none (c : UInt8) (s : ByteArray) (h : c ∉ s.data.toList) : partsOf c s = [s] := by
  unfold partsOf
  rw [splitL_part c _ h, List.map_singleton, bs_self]
theorem partsOf_more (c : UInt8) (s : ByteArray) (n : Nat) (_hn : n < s.size) (h1 : c ∉ s.data.toList.take n) (h2 : s.data.toList = s.data.toList.take n ++ c :: s.data.toList.drop (n + 1)) :
    partsOf c s = s.extract 0 n :: partsOf c (s.extract (n + 1) s.size) := by
  unfold partsOf
  rw [h2, splitL_more c _ _ h1, List.map_cons, from_data, ← bs_of (upto_data s n)]
end Go.Proofs.YtgajhmmildbkfaaGreatDoor

/- Where a text of one byte stands in a text, by the library. -/
namespace Go.Proofs.YtgajhmmildbkfaaGreatDoor
open Go.RowKit Go.Shelf

theorem index_at (s : ByteArray) (c : UInt8) (w : World) :
    Calls Tryz.prog 100 #[.string s, .string ⟨#[c]⟩] w fun e w' => e = .returned (.int .i64 (ixOf s.data.toList c)) ∧ w' = w := Any.stringslite_Index_one lays219 s c w
end Go.Proofs.YtgajhmmildbkfaaGreatDoor

/- The letters of a text by the program: three bytes, or what is left, are four letters. -/
namespace Go.Proofs.YtgajhmmildbkfaaGreatDoor
open Go.RowKit

def lets : List UInt8 := [65, 66, 67, 68, 69, 70, 71, 72, 73, 74, 75, 76, 77, 78, 79, 80, 81, 82, 83, 84, 85, 86, 87, 88, 89, 90, 97, 98, 99, 100, 101, 102, 103, 104, 105, 106, 107, 108, 109, 110, 111, 112, 113, 114, 115, 116, 117, 118, 119, 120, 121, 122, 48, 49, 50, 51, 52, 53, 54, 55, 56, 57, 43, 47]
def let64 (n : Nat) : UInt8 := lets.getD n 0
/-- The number that the first k bytes of a text are, noughts behind it. -/
def val : Nat → List UInt8 → Nat
  | 0, _ => 0
  | k + 1, l => val k l * 256 + (l.getD k 0).toNat
def grp (l : List UInt8) : List UInt8 :=
  [let64 (val 3 l / 262144 % 64), let64 (val 3 l / 4096 % 64), if 2 ≤ l.length then let64 (val 3 l / 64 % 64) else 61, if 3 ≤ l.length then let64 (val 3 l % 64) else 61]
def enc : List UInt8 → List UInt8
  | [] => []
  | [a] => grp [a]
  | [a, b] => grp [a, b]
  | a :: b :: c :: r => grp [a, b, c] ++ enc r

theorem val_lt (k : Nat) (l : List UInt8) : val k l < 256 ^ k := by
  induction k with
  | zero => simp [val]
  | succ k ih =>
    have := (l.getD k 0).toNat_lt
    unfold val
    rw [Nat.pow_succ]
    omega
theorem or_join (x y i : Nat) (hx : x % 2 ^ i = 0) (hx1 : x < 2 ^ 62) (hy : y < 2 ^ i) (hi : i ≤ 62) : bits .or .i64 (x : Int) (y : Int) = ((x + y : Nat) : Int) := by
  have hp : (2 : Nat) ^ i ≤ 2 ^ 62 := Nat.pow_le_pow_right (by decide) hi
  have hy2 : y < 2 ^ 62 := by omega
  rw [bits_join .i64 62 (by decide) (fun n h0 h1 => by rw [IntKind.wrap_i64]; omega) i x y (by omega) (by exact_mod_cast hx) (by exact_mod_cast hx1) (by omega) (by exact_mod_cast hy) (by exact_mod_cast hy2)]
  simp
theorem and_mask (x i : Nat) (hx : x < 2 ^ 62) (hi : i ≤ 62) : bits .and .i64 (x : Int) (2 ^ i - 1) = ((x % 2 ^ i : Nat) : Int) := by
  rw [bits_mask .i64 62 (by decide) (fun n h0 h1 => by rw [IntKind.wrap_i64]; omega) i hi x (by omega) (by exact_mod_cast hx)]
  simp
theorem lets_at (p : Nat) (h : p < 64) : ({ data := #[65, 66, 67, 68, 69, 70, 71, 72, 73, 74, 75, 76, 77, 78, 79, 80, 81, 82, 83, 84, 85, 86, 87, 88, 89, 90, 97, 98, 99, 100, 101, 102, 103, 104, 105, 106, 107, 108, 109, 110, 111, 112, 113, 114, 115, 116, 117, 118, 119, 120, 121, 122, 48, 49, 50, 51, 52, 53, 54, 55, 56, 57, 43, 47] } : ByteArray)[p]'h = let64 p := by
  have : ∀ p : Fin 64, ({ data := #[65, 66, 67, 68, 69, 70, 71, 72, 73, 74, 75, 76, 77, 78, 79, 80, 81, 82, 83, 84, 85, 86, 87, 88, 89, 90, 97, 98, 99, 100, 101, 102, 103, 104, 105, 106, 107, 108, 109, 110, 111, 112, 113, 114, 115, 116, 117, 118, 119, 120, 121, 122, 48, 49, 50, 51, 52, 53, 54, 55, 56, 57, 43, 47] } : ByteArray)[p.val]'p.isLt = let64 p := by decide
  exact this ⟨p, h⟩

theorem grp_pad (l : List UInt8) (k : Nat) (hk : k < 4) (h1 : 1 ≤ l.length) (h : l.length < k) : (grp l).take (k + 1) = (grp l).take k ++ [61] := by
  obtain rfl | rfl | rfl | rfl : k = 0 ∨ k = 1 ∨ k = 2 ∨ k = 3 := by omega
  · omega
  · omega
  · simp [grp, show ¬ 2 ≤ l.length by omega]
  · simp [grp, show ¬ 3 ≤ l.length by omega]
theorem grp_let (l : List UInt8) (N k : Nat) (hN : val 3 l = N) (hl : N < 16777216) (hk : k < 4) (h : k ≤ l.length) : ∃ q : Nat, q < 64 ∧ bits .and .i64 (((N / 2 ^ (18 - 6 * k) : Nat) : Int)) 63 = (q : Int) ∧ (grp l).take (k + 1) = (grp l).take k ++ [let64 q] := by
  subst hN
  have hm : ∀ x : Nat, x < 2 ^ 62 → bits .and .i64 (x : Int) 63 = ((x % 64 : Nat) : Int) := fun x hx => and_mask x 6 hx (by omega)
  have hd : val 3 l / 2 ^ (18 - 6 * k) ≤ val 3 l := Nat.div_le_self _ _
  refine ⟨val 3 l / 2 ^ (18 - 6 * k) % 64, Nat.mod_lt _ (by decide), hm _ (by omega), ?_⟩
  obtain rfl | rfl | rfl | rfl : k = 0 ∨ k = 1 ∨ k = 2 ∨ k = 3 := by omega
  · simp [grp]
  · simp [grp]
  · simp [grp, show 2 ≤ l.length by omega]
  · simp [grp, show 3 ≤ l.length by omega]

set_option maxRecDepth 100000 in
set_option maxHeartbeats 800000 in
theorem group_any (part : ByteArray) (l : List UInt8) (B g n cap : Nat) (w : World) (hO : Own w B (.slice (some ⟨g, 0, none⟩) n cap) l) (hn : l.length = n) (hn2 : n ≤ 100000) (h1 : 1 ≤ part.size) (_h3 : part.size ≤ 3) (hB : B ≤ w.heap.size) :
    Calls Tryz.prog 70 #[.slice (some ⟨g, 0, none⟩) n cap, .string part] w fun e w' => ∃ g' cap', e = .returned (.slice (some ⟨g', 0, none⟩) (n + 4) cap') ∧ Own w' B (.slice (some ⟨g', 0, none⟩) (n + 4) cap') (l ++ grp part.data.toList) ∧ Below B w w' := by
  obtain ⟨i0, hi0, hz0, hz1, hz2⟩ := info_parts info5
  have HO0 : Hid (Own w B (.slice (some ⟨g, 0, none⟩) n cap) l) := hO
  clear hO
  have HLn : Hid (l.length = n ∧ n ≤ 100000) := ⟨hn, hn2⟩
  clear hn hn2
  go_enter Tryz.func70, Tryz.ntmps70
  go_wp2
  go_loop [5, 8] (fun b i => ∃ (k : Nat) (x : Int), k ≤ 3 ∧ i = .int .i64 k ∧ b = .int .i64 x ∧ Hid (x = val k part.data.toList)) (fun _ i => 3 - (intOf i).toNat)
  case atStart => exact ⟨0, 0, Nat.zero_le _, rfl, rfl, rfl⟩
  case round =>
    obtain ⟨k, x, hk, rfl, rfl, HX⟩ := hrel
    by_cases hlt : k < 3
    · have hx0 : 0 ≤ x := by have := HX.out; omega
      have hx2 : x < 65536 := by
        have e := HX.out
        have := val_lt k part.data.toList
        have h4 : (256 : Nat) ^ k ≤ 256 ^ 2 := Nat.pow_le_pow_right (by decide) (by omega)
        omega
      by_cases hp : k < part.size
      · obtain ⟨c, hc⟩ : ∃ c : UInt8, part[k] = c := ⟨_, rfl⟩
        have hcl : (c.toNat : Int) < 256 := by have := c.toNat_lt; omega
        obtain ⟨y, hor⟩ : ∃ y : Int, bits .or .i64 (x * 256) (c.toNat : Int) = y := ⟨_, rfl⟩
        have HV : Hid (y = val (k + 1) part.data.toList) := by
          show y = ((val k _ * 256 + _ : Nat) : Int)
          have e : part.data.toList.getD k 0 = c := by
            rw [← hc]; simp [List.getD, hp]; rfl
          have e2 := HX.out
          have := or_join (x.toNat * 256) c.toNat 8 (by omega) (by omega) (by omega) (by omega)
          rw [e, ← hor, show x * 256 = ((x.toNat * 256 : Nat) : Int) by omega, this]
          omega
        go_wp2
        go_round
        case rel => exact ⟨k + 1, y, by omega, by go_num, rfl, HV⟩
        case measure => simp [intOf]; omega
      · have HV : Hid (x * 256 = val (k + 1) part.data.toList) := by
          show _ = ((val k _ * 256 + _ : Nat) : Int)
          have e : part.data.toList.getD k 0 = 0 := by
            simp [List.getD, hp]
          have e2 := HX.out
          have e3 : (0 : UInt8).toNat = 0 := rfl
          rw [e, e3]
          omega
        go_wp2
        go_round
        case rel => exact ⟨k + 1, _, by omega, by go_num, rfl, HV⟩
        case measure => simp [intOf]; omega
    · have hk3 : k = 3 := by omega
      subst hk3
      obtain ⟨N, hN⟩ : ∃ N : Nat, val 3 part.data.toList = N := ⟨_, rfl⟩
      have HN : Hid (val 3 part.data.toList = N) := hN
      have hxN : x = (N : Int) := by rw [← hN]; exact HX.out
      subst hxN
      have HNl : Hid (N < 16777216) := by have := val_lt 3 part.data.toList; rw [hN] at this; exact this
      clear hN HX hk hlt
      go_wp2
      go_loopw [0, 24] (fun v i wr => ∃ (k g1 cap1 : Nat), k ≤ 4 ∧ i = .int .i64 k ∧ v = .slice (some ⟨g1, 0, none⟩) (n + k) cap1 ∧ Hid (Own wr B v (l ++ (grp part.data.toList).take k)) ∧ Below B w wr) (fun _ i _ => 4 - (intOf i).toNat)
      case atStart => exact ⟨0, g, cap, Nat.zero_le _, rfl, rfl, by rw [List.take_zero, List.append_nil]; exact HO0, Below.refl _ _⟩
      case round =>
        obtain ⟨k, g1, cap1, hk, rfl, rfl, HO, hb⟩ := hrel
        clear HO0
        have hBz : B ≤ wr.heap.size := Nat.le_trans hB hb.size
        have hlen : (l ++ (grp part.data.toList).take k).length = n + k := by
          rw [List.length_append, HLn.out.1, List.length_take]
          have : (grp part.data.toList).length = 4 := rfl
          omega
        have HW : Hid (wr.ownsRow B 5 1 (.slice (some ⟨g1, 0, none⟩) (n + k) cap1) (n + k) ((l ++ (grp part.data.toList).take k).map fun c => Value.int .u8 (c.toNat : Int))) := HO.out.rows hlen
        have HLen : Hid ((l ++ (grp part.data.toList).take k).length = n + k) := hlen
        have HM : Hid (n + k + 1 ≤ maxLen ∧ (n + k + 1) * 1 ≤ 140737488355328) := by
          have := HLn.out.2
          show _ ∧ _
          unfold maxLen
          omega
        clear hlen
        by_cases hlt : k < 4
        · by_cases hpad : (part.size : Int) < (k : Int)
          · have HG : Hid ((grp part.data.toList).take (k + 1) = (grp part.data.toList).take k ++ [61]) := grp_pad _ k hlt (by simpa using h1) (by simp; omega)
            go_wp2_with (at_builtin; refine wpList_append_lies _ rfl (.tmp 31) (.tmp 32) 83 rfl B 5 i0 (.int .u8 0) 1 1 Tryz.underlying83 hi0 hz0 hz1 hz2 rfl (by omega) (.slice (some ⟨g1, 0, none⟩) (n + k) cap1) (n + k) _ rfl (HW.out.alloc _) ⟨_, 0, none⟩ 1 1 [.int .u8 61] rfl rfl (World.news_of_block (cs := #[.int .u8 61]) (t := 5) (fr := (0, 0)) (heap_alloc_new _ _)) (by simp [Value.oneCell']) (by omega) HM.out.1 HM.out.2 (by simp; omega) _ rfl ?_; intro gg cap2 w2 hown1 hgrow hat hlt1; have HN2 : Hid (Own w2 B (.slice (some ⟨gg, 0, none⟩) (n + k + 1) cap2) (l ++ (grp part.data.toList).take (k + 1))) := (by show Own _ _ _ _; rw [HG.out, ← List.append_assoc]; exact Own.more (ds := [61]) hown1 HLen.out rfl); have hb2 : Below B w w2 := HO.out.below hb hBz hgrow; clear hown1 hgrow hat hlt1)
            go_roundw
            case rel => exact ⟨k + 1, gg, cap2, by omega, by go_num, rfl, HN2, hb2⟩
            case measure => simp [intOf]; omega
          · obtain ⟨q, hq64, hq, HG⟩ := grp_let part.data.toList N k HN.out HNl.out hlt (by simp; omega)
            obtain ⟨d, hd⟩ : ∃ d : UInt8, ({ data := #[65, 66, 67, 68, 69, 70, 71, 72, 73, 74, 75, 76, 77, 78, 79, 80, 81, 82, 83, 84, 85, 86, 87, 88, 89, 90, 97, 98, 99, 100, 101, 102, 103, 104, 105, 106, 107, 108, 109, 110, 111, 112, 113, 114, 115, 116, 117, 118, 119, 120, 121, 122, 48, 49, 50, 51, 52, 53, 54, 55, 56, 57, 43, 47] } : ByteArray)[q]'hq64 = d := ⟨_, rfl⟩
            have HG2 : Hid ((grp part.data.toList).take (k + 1) = (grp part.data.toList).take k ++ [d]) := by rw [← hd, lets_at q hq64]; exact HG
            clear HG
            have hq64' : (q : Int) < 64 := by omega
            obtain rfl | rfl | rfl | rfl : k = 0 ∨ k = 1 ∨ k = 2 ∨ k = 3 := by omega
            · have hqk : bits .and .i64 ((N : Int) / 262144) 63 = (q : Int) := by rw [← hq]; simp
              clear hq
              have HWk : Hid (wr.ownsRow B 5 1 (.slice (some ⟨g1, 0, none⟩) n cap1) n ((l ++ (grp part.data.toList).take 0).map fun c => Value.int .u8 (c.toNat : Int))) := HW
              clear HW
              have HOk : Hid (Own wr B (.slice (some ⟨g1, 0, none⟩) n cap1) (l ++ (grp part.data.toList).take 0)) := HO
              clear HO
              go_wp2_with (at_builtin; refine wpList_append_lies _ rfl (.tmp 34) (.tmp 42) 83 rfl B 5 i0 (.int .u8 0) 1 1 Tryz.underlying83 hi0 hz0 hz1 hz2 rfl (by omega) (.slice (some ⟨g1, 0, none⟩) n cap1) n _ rfl (HWk.out.alloc _) ⟨_, 0, none⟩ 1 1 [.int .u8 (d.toNat : Int)] rfl rfl (World.news_of_block (cs := #[.int .u8 (d.toNat : Int)]) (t := 5) (fr := (0, 0)) (heap_alloc_new _ _)) (by simp [Value.oneCell']) (by omega) HM.out.1 HM.out.2 (by simp; omega) _ rfl ?_; intro gg cap2 w2 hown1 hgrow hat hlt1; have HN2 : Hid (Own w2 B (.slice (some ⟨gg, 0, none⟩) (n + 1) cap2) (l ++ (grp part.data.toList).take (0 + 1))) := (by show Own _ _ _ _; rw [HG2.out, ← List.append_assoc]; exact Own.more (ds := [d]) hown1 HLen.out rfl); have hb2 : Below B w w2 := HOk.out.below hb hBz hgrow; clear hown1 hgrow hat hlt1)
              go_roundw
              case rel => exact ⟨0 + 1, gg, cap2, by omega, by go_num, rfl, HN2, hb2⟩
              case measure => simp [intOf]
            · have hqk : bits .and .i64 ((N : Int) / 4096) 63 = (q : Int) := by rw [← hq]; simp
              clear hq
              have HWk : Hid (wr.ownsRow B 5 1 (.slice (some ⟨g1, 0, none⟩) (n + 1) cap1) (n + 1) ((l ++ (grp part.data.toList).take 1).map fun c => Value.int .u8 (c.toNat : Int))) := HW
              clear HW
              have HOk : Hid (Own wr B (.slice (some ⟨g1, 0, none⟩) (n + 1) cap1) (l ++ (grp part.data.toList).take 1)) := HO
              clear HO
              go_wp2_with (at_builtin; refine wpList_append_lies _ rfl (.tmp 34) (.tmp 42) 83 rfl B 5 i0 (.int .u8 0) 1 1 Tryz.underlying83 hi0 hz0 hz1 hz2 rfl (by omega) (.slice (some ⟨g1, 0, none⟩) (n + 1) cap1) (n + 1) _ rfl (HWk.out.alloc _) ⟨_, 0, none⟩ 1 1 [.int .u8 (d.toNat : Int)] rfl rfl (World.news_of_block (cs := #[.int .u8 (d.toNat : Int)]) (t := 5) (fr := (0, 0)) (heap_alloc_new _ _)) (by simp [Value.oneCell']) (by omega) HM.out.1 HM.out.2 (by simp; omega) _ rfl ?_; intro gg cap2 w2 hown1 hgrow hat hlt1; have HN2 : Hid (Own w2 B (.slice (some ⟨gg, 0, none⟩) ((n + 1) + 1) cap2) (l ++ (grp part.data.toList).take (1 + 1))) := (by show Own _ _ _ _; rw [HG2.out, ← List.append_assoc]; exact Own.more (ds := [d]) hown1 HLen.out rfl); have hb2 : Below B w w2 := HOk.out.below hb hBz hgrow; clear hown1 hgrow hat hlt1)
              go_roundw
              case rel => exact ⟨1 + 1, gg, cap2, by omega, by go_num, rfl, HN2, hb2⟩
              case measure => simp [intOf]
            · have hqk : bits .and .i64 ((N : Int) / 64) 63 = (q : Int) := by rw [← hq]; simp
              clear hq
              have HWk : Hid (wr.ownsRow B 5 1 (.slice (some ⟨g1, 0, none⟩) (n + 2) cap1) (n + 2) ((l ++ (grp part.data.toList).take 2).map fun c => Value.int .u8 (c.toNat : Int))) := HW
              clear HW
              have HOk : Hid (Own wr B (.slice (some ⟨g1, 0, none⟩) (n + 2) cap1) (l ++ (grp part.data.toList).take 2)) := HO
              clear HO
              go_wp2_with (at_builtin; refine wpList_append_lies _ rfl (.tmp 34) (.tmp 42) 83 rfl B 5 i0 (.int .u8 0) 1 1 Tryz.underlying83 hi0 hz0 hz1 hz2 rfl (by omega) (.slice (some ⟨g1, 0, none⟩) (n + 2) cap1) (n + 2) _ rfl (HWk.out.alloc _) ⟨_, 0, none⟩ 1 1 [.int .u8 (d.toNat : Int)] rfl rfl (World.news_of_block (cs := #[.int .u8 (d.toNat : Int)]) (t := 5) (fr := (0, 0)) (heap_alloc_new _ _)) (by simp [Value.oneCell']) (by omega) HM.out.1 HM.out.2 (by simp; omega) _ rfl ?_; intro gg cap2 w2 hown1 hgrow hat hlt1; have HN2 : Hid (Own w2 B (.slice (some ⟨gg, 0, none⟩) ((n + 2) + 1) cap2) (l ++ (grp part.data.toList).take (2 + 1))) := (by show Own _ _ _ _; rw [HG2.out, ← List.append_assoc]; exact Own.more (ds := [d]) hown1 HLen.out rfl); have hb2 : Below B w w2 := HOk.out.below hb hBz hgrow; clear hown1 hgrow hat hlt1)
              go_roundw
              case rel => exact ⟨2 + 1, gg, cap2, by omega, by go_num, rfl, HN2, hb2⟩
              case measure => simp [intOf]
            · have hqk : bits .and .i64 (N : Int) 63 = (q : Int) := by rw [← hq]; simp
              clear hq
              have HWk : Hid (wr.ownsRow B 5 1 (.slice (some ⟨g1, 0, none⟩) (n + 3) cap1) (n + 3) ((l ++ (grp part.data.toList).take 3).map fun c => Value.int .u8 (c.toNat : Int))) := HW
              clear HW
              have HOk : Hid (Own wr B (.slice (some ⟨g1, 0, none⟩) (n + 3) cap1) (l ++ (grp part.data.toList).take 3)) := HO
              clear HO
              go_wp2_with (at_builtin; refine wpList_append_lies _ rfl (.tmp 34) (.tmp 42) 83 rfl B 5 i0 (.int .u8 0) 1 1 Tryz.underlying83 hi0 hz0 hz1 hz2 rfl (by omega) (.slice (some ⟨g1, 0, none⟩) (n + 3) cap1) (n + 3) _ rfl (HWk.out.alloc _) ⟨_, 0, none⟩ 1 1 [.int .u8 (d.toNat : Int)] rfl rfl (World.news_of_block (cs := #[.int .u8 (d.toNat : Int)]) (t := 5) (fr := (0, 0)) (heap_alloc_new _ _)) (by simp [Value.oneCell']) (by omega) HM.out.1 HM.out.2 (by simp; omega) _ rfl ?_; intro gg cap2 w2 hown1 hgrow hat hlt1; have HN2 : Hid (Own w2 B (.slice (some ⟨gg, 0, none⟩) ((n + 3) + 1) cap2) (l ++ (grp part.data.toList).take (3 + 1))) := (by show Own _ _ _ _; rw [HG2.out, ← List.append_assoc]; exact Own.more (ds := [d]) hown1 HLen.out rfl); have hb2 : Below B w w2 := HOk.out.below hb hBz hgrow; clear hown1 hgrow hat hlt1)
              go_roundw
              case rel => exact ⟨3 + 1, gg, cap2, by omega, by go_num, rfl, HN2, hb2⟩
              case measure => simp [intOf]
        · have hk4 : k = 4 := by omega
          subst hk4
          have HE : Hid (Own wr B (.slice (some ⟨g1, 0, none⟩) (n + 4) cap1) (l ++ grp part.data.toList)) := by
            have := HO.out
            rwa [List.take_of_length_le (show (grp part.data.toList).length ≤ 4 from Nat.le_refl 4)] at this
          clear HW HM HLen HO
          go_wp2
          go_ret
          exact ⟨g1, cap1, rfl, HE, hb⟩

theorem grp_length (l : List UInt8) : (grp l).length = 4 := rfl
theorem enc_part (l : List UInt8) (h1 : 1 ≤ l.length) (h3 : l.length ≤ 3) : enc l = grp l := by
  match l, h1, h3 with
  | [a], _, _ => rfl
  | [a, b], _, _ => rfl
  | [a, b, c], _, _ => simp [enc]
theorem enc_append (x y : List UInt8) (h : x.length % 3 = 0) : enc (x ++ y) = enc x ++ enc y := by
  match x, h with
  | [], _ => rfl
  | a :: b :: c :: r, h =>
    have := enc_append r y (by simp at h; omega)
    simp only [List.cons_append, enc, this, List.append_assoc]
theorem enc_length (l : List UInt8) : (enc l).length = (l.length + 2) / 3 * 4 := by
  match l with
  | [] => rfl
  | [a] => simp [enc, grp_length]
  | [a, b] => simp [enc, grp_length]
  | a :: b :: c :: r =>
    have := enc_length r
    simp only [enc, List.length_append, grp_length, this, List.length_cons]
    omega

set_option maxRecDepth 100000 in
set_option maxHeartbeats 800000 in
theorem base_any (s : ByteArray) (w : World) (hs : s.size ≤ 1000) :
    Calls Tryz.prog 41 #[.string s] w fun e w' => e = .returned (.string (bs (enc s.data.toList))) ∧ Below w.heap.size w w' := by
  obtain ⟨i0, hi0, hz0, hz1, hz2⟩ := info_parts info5
  obtain ⟨m, hm⟩ : ∃ m : Nat, ((s.size : Int) + 2) / 3 = m := ⟨(s.size + 2) / 3, by omega⟩
  have hm3 : m ≤ 334 := by omega
  have HM : Hid (m = (s.size + 2) / 3) := by show _ = _; omega
  go_enter Tryz.func41, Tryz.ntmps41
  go_wp2_with (at_make; refine wpList_make_own _ rfl _ _ 83 rfl w.heap.size 5 i0 (.int .u8 0) 1 Tryz.underlying83 hi0 hz0 hz1 .i64 .i64 _ (4 * m) rfl rfl (by omega) (by rw [hz2]; omega) (by unfold maxLen; omega) (Nat.le_refl _) ?_; intro w1 hown1 hgrow1)
  have hb1 : Below w.heap.size w w1 := (Below.refl _ _).grown hgrow1 (Nat.le_refl _) (by simp)
  have HO1 : Hid (Own w1 w.heap.size (.slice (some ⟨w.heap.size, 0, none⟩) 0 (4 * m)) []) := hown1
  clear hown1 hgrow1
  go_loopw [4, 14] (fun v i wr => ∃ (k g cap : Nat), k ≤ m ∧ i = .int .i64 k ∧ v = .slice (some ⟨g, 0, none⟩) (4 * k) cap ∧ Hid (Own wr w.heap.size v (enc (s.data.toList.take (3 * k)))) ∧ Below w.heap.size w wr) (fun _ i _ => m - (intOf i).toNat)
  case atStart => exact ⟨0, _, _, Nat.zero_le _, rfl, rfl, HO1, hb1⟩
  case round =>
    obtain ⟨k, g, cap, hk, rfl, rfl, HO, hb⟩ := hrel
    clear HO1 hb1
    by_cases hlt : k < m
    · have hwz : w.heap.size ≤ wr.heap.size := hb.size
      obtain ⟨part, hpart⟩ : ∃ p : ByteArray, s.extract (3 * k) (min (3 * (k : Int) + 3) (s.size : Int)).toNat = p := ⟨_, rfl⟩
      have hpl : part.data.toList = (s.data.toList.drop (3 * k)).take 3 := by
        have e := HM.out
        rw [← hpart, Lib.extract_data]
        by_cases hf : 3 * k + 3 ≤ s.size
        · rw [show (min (3 * (k : Int) + 3) (s.size : Int)).toNat - 3 * k = 3 by omega]
        · rw [List.take_of_length_le (by simp; omega), List.take_of_length_le (by simp; omega)]
      have hp1 : 1 ≤ part.size ∧ part.size ≤ 3 := by
        have e := HM.out
        rw [Lib.size_eq, hpl]
        simp
        omega
      have HT : Hid (enc (s.data.toList.take (3 * (k + 1))) = enc (s.data.toList.take (3 * k)) ++ grp part.data.toList) := by
        have e := HM.out
        show _ = _
        rw [← enc_part _ (by have := Lib.size_eq part; omega) (by have := Lib.size_eq part; omega), ← enc_append _ _ (by simp; omega), hpl, show 3 * (k + 1) = 3 * k + 3 by omega, List.take_add]
      have HL : Hid ((enc (s.data.toList.take (3 * k))).length = 4 * k) := by
        have e := HM.out
        show _ = _
        rw [enc_length, List.length_take]
        simp
        omega
      clear hpl
      have HP : Hid (1 ≤ part.size ∧ part.size ≤ 3) := hp1
      clear hp1
      go_wp2_with (go_at_call 70; refine (group_any part _ w.heap.size g (4 * k) cap _ HO.out HL.out (by omega) HP.out.1 HP.out.2 hwz).mono ?_; rintro e w' ⟨g', cap', rfl, HN, hb2⟩; have HN2 : Hid (Own w' w.heap.size (.slice (some ⟨g', 0, none⟩) (4 * k + 4) cap') (enc (s.data.toList.take (3 * (k + 1))))) := (by show Own _ _ _ _; rw [HT.out]; exact HN); clear HN)
      go_roundw
      case rel => exact ⟨k + 1, g', cap', by omega, by go_num, rfl, HN2, hb.trans hb2⟩
      case measure => simp [intOf]; omega
    · have hO : Own wr w.heap.size (.slice (some ⟨g, 0, none⟩) (4 * k) cap) (enc s.data.toList) := by
        have := HO.out
        have e := HM.out
        rwa [List.take_of_length_le (by simp; omega)] at this
      have hback := hO.back (by rw [enc_length]; have := HM.out; simp; omega)
      clear hO HO
      go_wp2
      go_ret
      exact ⟨rfl, hb⟩
end Go.Proofs.YtgajhmmildbkfaaGreatDoor
