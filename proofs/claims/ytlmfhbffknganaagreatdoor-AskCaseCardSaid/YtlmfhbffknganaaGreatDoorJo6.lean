/- Texts of one claim, joined: each begins with what it proves. -/
import Derived.Test.YtlmfhbffknganaaGreatDoorJo3
import Derived.Test.YtlmfhbffknganaaGreatDoorJo1
import Derived.Test.YtlmfhbffknganaaGreatDoorJo5
import Derived.Test.YtlmfhbffknganaaGreatDoorJo2
import Derived.Lib.Strings
/- How heavy challenges are. -/
namespace Go.Proofs.YtlmfhbffknganaaGreatDoor
open Go.RowKit

def parW : List Par → Nat
  | [] => 0
  | p :: r => p.1.size + p.2.size + parW r
theorem parW_app (a b : List Par) : parW (a ++ b) = parW a + parW b := by
  induction a with
  | nil => simp [parW]
  | cons p r ih => rw [List.cons_append, parW, parW, ih]; omega
theorem parW_snoc (ps : List Par) (k : Nat) (p : Par) (h : ps[k]? = some p) : parW (ps.take (k + 1)) = parW (ps.take k) + (p.1.size + p.2.size) := by
  obtain ⟨hk, e⟩ := List.getElem?_eq_some_iff.1 h
  rw [List.take_succ_eq_append_getElem hk, parW_app, e]
  simp [parW]
theorem parW_le (ps : List Par) (m : Nat) (h : ∀ p ∈ ps, p.1.size ≤ m ∧ p.2.size ≤ m) : parW ps ≤ ps.length * (2 * m) := by
  induction ps with
  | nil => simp [parW]
  | cons p r ih =>
    have h1 := h p (by simp)
    have h2 := ih (fun q hq => h q (by simp [hq]))
    rw [parW, List.length_cons, Nat.succ_mul]
    omega
theorem parW_mem (ps : List Par) (p : Par) (h : p ∈ ps) : p.1.size + p.2.size ≤ parW ps := by
  induction ps with
  | nil => cases h
  | cons q r ih =>
    rw [parW]
    rcases List.mem_cons.1 h with rfl | h'
    · omega
    · have := ih h'
      omega
def chW (c : Chal) : Nat := c.scheme.size + c.token.size + parW c.params
def lightB (c : Chal) : Bool := decide (c.params.length ≤ 20) && decide (chW c ≤ 600)
def lightL (cs : List ChV) : Bool := decide (cs.length ≤ 10) && cs.all (fun c => lightB c.x)
/-- Texts that a machine can hold. -/
def Held (c : Chal) : Prop := c.scheme.size ≤ 140737488355328 ∧ c.token.size ≤ 140737488355328 ∧ ∀ p ∈ c.params, p.1.size ≤ 140737488355328 ∧ p.2.size ≤ 140737488355328
/-- Its row is no longer than its room. -/
def Room (c : ChV) : Prop := c.len ≤ c.cap ∧ c.cap ≤ 9223372036854775807 ∧ c.len ≤ 9223372036854775807
theorem light_few {c : Chal} (h : lightB c = true) : c.params.length ≤ 20 ∧ c.scheme.size ≤ 600 ∧ c.token.size ≤ 600 ∧ ∀ p ∈ c.params, p.1.size ≤ 600 ∧ p.2.size ≤ 600 := by
  unfold lightB at h
  simp only [Bool.and_eq_true, decide_eq_true_eq] at h
  have h2 := h.2
  unfold chW at h2
  refine ⟨h.1, by omega, by omega, fun p hp => ?_⟩
  have := parW_mem _ _ hp
  omega
theorem all_step {cs : List ChV} {k : Nat} {c : ChV} (h : (cs.take k).all (fun c => lightB c.x) = true) (hc : cs[k]? = some c) (hl : lightB c.x = true) : (cs.take (k + 1)).all (fun c => lightB c.x) = true := by
  obtain ⟨hk, e⟩ := List.getElem?_eq_some_iff.1 hc
  rw [List.take_succ_eq_append_getElem hk, List.all_append, h, e]
  simp [hl]
theorem light_no {cs : List ChV} {c : ChV} (hc : c ∈ cs) (hl : lightB c.x = false) : lightL cs = false := by
  unfold lightL
  have : cs.all (fun c => lightB c.x) = false := by
    rw [List.all_eq_false]
    exact ⟨c, hc, by simp [hl]⟩
  rw [this, Bool.and_false]
end Go.Proofs.YtlmfhbffknganaaGreatDoor

/- Challenges written, as the document says, over lists of bytes. -/
namespace Go.Proofs.YtlmfhbffknganaaGreatDoor

/-- A parameter, a blank ahead. -/
def parT (p : Par) : Option (List UInt8) := (valueO p.2.data.toList).map fun v => 32 :: (p.1.data.toList ++ 61 :: v)
def sepP (first : Bool) : List UInt8 := if first then [] else [44]
def parsT : Bool → List Par → Option (List UInt8)
  | _, [] => some []
  | first, p :: r => match parT p with
    | none => none
    | some a => (parsT false r).map fun b => sepP first ++ a ++ b
def tokT (t : ByteArray) : List UInt8 := if t.size = 0 then [] else 32 :: t.data.toList
def chalT (x : Chal) : Option (List UInt8) := (parsT true x.params).map fun a => x.scheme.data.toList ++ tokT x.token ++ a
def sepC (i : Nat) : List UInt8 := if i = 0 then [] else [44, 32]
/-- Challenges as a header, or the number of the first one that can't be told. -/
def printL : Nat → List Chal → Except Nat (List UInt8)
  | _, [] => .ok []
  | i, x :: r => match chalT x with
    | none => .error i
    | some a => (printL (i + 1) r).map fun b => sepC i ++ a ++ b
theorem valueO_len (v t : List UInt8) (h : valueO v = some t) : t.length ≤ 2 * v.length + 2 := by
  unfold valueO at h
  split at h
  · cases h; omega
  · unfold quoteO at h
    split at h
    · cases h
      unfold quoteL
      have := escL_length v
      simp
      omega
    · cases h
theorem parT_len (p : Par) (a : List UInt8) (h : parT p = some a) : a.length ≤ 2 * (p.1.size + p.2.size) + 4 := by
  unfold parT at h
  obtain ⟨v, hv, rfl⟩ := Option.map_eq_some_iff.1 h
  have := valueO_len _ _ hv
  have e1 : p.1.data.toList.length = p.1.size := Array.length_toList
  have e2 : p.2.data.toList.length = p.2.size := Array.length_toList
  simp
  omega
theorem parsT_len : ∀ (ps : List Par) (f : Bool) (a : List UInt8), parsT f ps = some a → a.length ≤ 2 * parW ps + 5 * ps.length
  | [], f, a, h => by cases h; simp
  | p :: r, f, a, h => by
    unfold parsT at h
    rcases hp : parT p with _ | q
    · rw [hp] at h; cases h
    · rw [hp] at h
      obtain ⟨b, hb, rfl⟩ := Option.map_eq_some_iff.1 h
      have h1 := parsT_len r false b hb
      have h2 := parT_len p q hp
      have h3 : (sepP f).length ≤ 1 := by cases f <;> simp [sepP]
      rw [parW, List.length_append, List.length_append, List.length_cons]
      omega
theorem chalT_len (x : Chal) (a : List UInt8) (h : chalT x = some a) : a.length ≤ 2 * chW x + 5 * x.params.length + 1 := by
  unfold chalT at h
  obtain ⟨b, hb, rfl⟩ := Option.map_eq_some_iff.1 h
  have h1 := parsT_len _ _ _ hb
  have e1 : x.scheme.data.toList.length = x.scheme.size := Array.length_toList
  have e2 : x.token.data.toList.length = x.token.size := Array.length_toList
  have h2 : (tokT x.token).length ≤ x.token.size + 1 := by unfold tokT; split <;> simp
  unfold chW
  rw [List.length_append, List.length_append]
  omega
/-- What is known of the parameters behind the first k. -/
def ParsAt (ps : List Par) (o : List UInt8) (k : Nat) : Prop := parsT true ps = (parsT (k == 0) (ps.drop k)).map (o ++ ·)
theorem parsAt_start (ps : List Par) : ParsAt ps [] 0 := by
  unfold ParsAt
  rw [List.drop_zero]
  show parsT true ps = (parsT true ps).map _
  generalize parsT true ps = o
  cases o <;> simp
theorem parsAt_end {ps : List Par} {o : List UInt8} {k : Nat} (h : ParsAt ps o k) (hk : ps.length ≤ k) : parsT true ps = some o := by
  unfold ParsAt at h
  rw [h, List.drop_of_length_le hk]
  simp [parsT]
theorem parsAt_bad {ps : List Par} {o : List UInt8} {k : Nat} {p : Par} (h : ParsAt ps o k) (hk : ps[k]? = some p) (hp : parT p = none) : parsT true ps = none := by
  unfold ParsAt at h
  obtain ⟨hk1, e⟩ := List.getElem?_eq_some_iff.1 hk
  rw [h, List.drop_eq_getElem_cons hk1, e, parsT, hp]
  rfl
theorem parsAt_next {ps : List Par} {o a : List UInt8} {k : Nat} {p : Par} (h : ParsAt ps o k) (hk : ps[k]? = some p) (hp : parT p = some a) : ParsAt ps (o ++ (sepP (k == 0) ++ a)) (k + 1) := by
  unfold ParsAt at h ⊢
  obtain ⟨hk1, e⟩ := List.getElem?_eq_some_iff.1 hk
  rw [h, List.drop_eq_getElem_cons hk1, e, parsT, hp]
  simp only [Option.map_map]
  congr 1
  funext b
  simp
/-- What is known of the challenges behind the first k. -/
def PrintAt (xs : List Chal) (o : List UInt8) (k : Nat) : Prop := printL 0 xs = (printL k (xs.drop k)).map (o ++ ·)
theorem printAt_start (xs : List Chal) : PrintAt xs [] 0 := by
  unfold PrintAt
  rw [List.drop_zero]
  cases printL 0 xs <;> simp [Except.map]
theorem printAt_end {xs : List Chal} {o : List UInt8} {k : Nat} (h : PrintAt xs o k) (hk : xs.length ≤ k) : printL 0 xs = .ok o := by
  unfold PrintAt at h
  rw [h, List.drop_of_length_le hk]
  simp [printL, Except.map]
theorem printAt_bad {xs : List Chal} {o : List UInt8} {k : Nat} {x : Chal} (h : PrintAt xs o k) (hk : xs[k]? = some x) (hp : chalT x = none) : printL 0 xs = .error k := by
  unfold PrintAt at h
  obtain ⟨hk1, e⟩ := List.getElem?_eq_some_iff.1 hk
  rw [h, List.drop_eq_getElem_cons hk1, e, printL, hp]
  rfl
theorem printAt_next {xs : List Chal} {o a : List UInt8} {k : Nat} {x : Chal} (h : PrintAt xs o k) (hk : xs[k]? = some x) (hp : chalT x = some a) : PrintAt xs (o ++ (sepC k ++ a)) (k + 1) := by
  unfold PrintAt at h ⊢
  obtain ⟨hk1, e⟩ := List.getElem?_eq_some_iff.1 hk
  rw [h, List.drop_eq_getElem_cons hk1, e, printL, hp]
  cases printL (k + 1) (xs.drop (k + 1)) <;> simp [Except.map]
end Go.Proofs.YtlmfhbffknganaaGreatDoor

/- Challenges that are written are read as they are, over lists of bytes. -/
namespace Go.Proofs.YtlmfhbffknganaaGreatDoor

theorem kinds : ∀ c : UInt8, (tokB c = true → c ≠ 61 ∧ c ≠ 44 ∧ c ≠ 34 ∧ blankB c = false ∧ gapB c = false) ∧ (tkB c = true → c ≠ 61 ∧ c ≠ 44 ∧ blankB c = false) := by
  intro c
  have : ∀ n : Fin 256, (tokB (UInt8.ofNat n.1) = true → UInt8.ofNat n.1 ≠ 61 ∧ UInt8.ofNat n.1 ≠ 44 ∧ UInt8.ofNat n.1 ≠ 34 ∧ blankB (UInt8.ofNat n.1) = false ∧ gapB (UInt8.ofNat n.1) = false) ∧ (tkB (UInt8.ofNat n.1) = true → UInt8.ofNat n.1 ≠ 61 ∧ UInt8.ofNat n.1 ≠ 44 ∧ blankB (UInt8.ofNat n.1) = false) := by decide +kernel
  have h := this ⟨c.toNat, c.toNat_lt⟩
  simpa using h
/-- Nothing, or a comma ahead. -/
def Ends (m : List UInt8) : Prop := m = [] ∨ ∃ t, m = 44 :: t
theorem tw_end (f : UInt8 → Bool) (hf : f 44 = false) {m : List UInt8} (h : Ends m) : m.takeWhile f = [] ∧ m.dropWhile f = m := by
  rcases h with rfl | ⟨t, rfl⟩
  · exact ⟨rfl, rfl⟩
  · exact ⟨by rw [List.takeWhile_cons, hf]; rfl, by rw [List.dropWhile_cons, hf]; rfl⟩
theorem stops_end {m : List UInt8} (h : Ends m) : stopsL m = true := by
  rcases h with rfl | ⟨t, rfl⟩
  · rfl
  · rfl
theorem tw_app (f : UInt8 → Bool) {a m : List UInt8} (ha : a.all f = true) (hm : m.takeWhile f = []) : (a ++ m).takeWhile f = a := by
  rw [List.takeWhile_append_of_pos (by simpa [List.all_eq_true] using ha), hm, List.append_nil]
theorem dw_app (f : UInt8 → Bool) {a m : List UInt8} (ha : a.all f = true) (hm : m.dropWhile f = m) : (a ++ m).dropWhile f = m := by
  rw [List.dropWhile_append_of_pos (by simpa [List.all_eq_true] using ha), hm]
theorem dw_first (f : UInt8 → Bool) {c : UInt8} (t : List UInt8) (h : f c = false) : (c :: t).dropWhile f = c :: t ∧ (c :: t).takeWhile f = [] := by
  rw [List.dropWhile_cons, List.takeWhile_cons, h]
  exact ⟨rfl, rfl⟩
theorem isL_cons {l : List UInt8} (h : isL l = true) : ∃ c t, l = c :: t ∧ tokB c = true ∧ l.all tokB = true := by
  unfold isL at h
  rw [Bool.and_eq_true] at h
  cases l with
  | nil => cases h.1
  | cons c t =>
    refine ⟨c, t, rfl, ?_, h.2⟩
    have := h.2
    rw [List.all_cons, Bool.and_eq_true] at this
    exact this.1
/-- A parameter that is not like those ahead. -/
def Unlike : List Par → List Par → Prop
  | _, [] => True
  | acc, p :: r => toldL acc p.1 = false ∧ Unlike (acc ++ [p]) r
/-- A parameter's text, without the blank. -/
def parN (p : Par) (v : List UInt8) : List UInt8 := p.1.data.toList ++ 61 :: v
theorem parT_is {p : Par} {a : List UInt8} (h : parT p = some a) : ∃ v, valueO p.2.data.toList = some v ∧ a = 32 :: parN p v := by
  unfold parT at h
  obtain ⟨v, hv, rfl⟩ := Option.map_eq_some_iff.1 h
  exact ⟨v, hv, rfl⟩
theorem value_first {s v : List UInt8} (h : valueO s = some v) : ∃ c t, v = c :: t ∧ (tokB c = true ∨ c = 34) := by
  unfold valueO at h
  split at h
  · rename_i hs
    cases h
    obtain ⟨c, t, rfl, hc, _⟩ := isL_cons hs
    exact ⟨c, t, rfl, .inl hc⟩
  · unfold quoteO at h
    split at h
    · cases h
      exact ⟨34, _, rfl, .inr rfl⟩
    · cases h
theorem first_kinds {c : UInt8} (h : tokB c = true ∨ c = 34) : c ≠ 61 ∧ c ≠ 44 ∧ blankB c = false ∧ eqB c = false := by
  have : c ≠ 61 ∧ c ≠ 44 ∧ blankB c = false := by
    rcases h with h | rfl
    · exact ⟨((kinds c).1 h).1, ((kinds c).1 h).2.1, ((kinds c).1 h).2.2.2.1⟩
    · decide
  exact ⟨this.1, this.2.1, this.2.2, beq_eq_false_iff_ne.2 this.1⟩
theorem name_is {p : Par} {v R : List UInt8} (hn : isL p.1.data.toList = true) : nameL (parN p v ++ R) = some (p.1, v ++ R) := by
  obtain ⟨c, t, e, hc, ha⟩ := isL_cons hn
  unfold nameL parN
  have h1 : (p.1.data.toList ++ 61 :: v ++ R).takeWhile tokB = p.1.data.toList := by
    rw [List.append_assoc]
    exact tw_app tokB ha (dw_first tokB _ (by decide)).2
  have h2 : (p.1.data.toList ++ 61 :: v ++ R).dropWhile tokB = 61 :: (v ++ R) := by
    rw [List.append_assoc]
    exact dw_app tokB ha (dw_first tokB _ (by decide)).1
  rw [h1, h2, (dw_first blankB _ (by decide)).1, if_neg (by rw [e]; simp)]
  show some (bs p.1.data.toList, v ++ R) = _
  rw [bs_self]
theorem value_is {p : Par} {v R : List UInt8} (hv : valueO p.2.data.toList = some v) (hR : Ends R) : valueL ((v ++ R).dropWhile blankB) = some (p.2, R) := by
  obtain ⟨c, t, e, hc⟩ := value_first hv
  have hb : (v ++ R).dropWhile blankB = v ++ R := by
    rw [e]
    exact (dw_first blankB _ (first_kinds hc).2.2.1).1
  rw [hb]
  have hm : ∀ c t, R = c :: t → tokB c = false := by
    intro c t h
    rcases hR with rfl | ⟨t', rfl⟩
    · cases h
    · cases h; decide
  rcases value_word _ v R hm hv with ⟨hs, rfl, htw⟩ | ⟨hs, htw, hq⟩
  · unfold valueL
    obtain ⟨c', t', e', _, ha⟩ := isL_cons hs
    rw [htw, if_neg (by rw [e']; simp), bs_self]
    congr 2
    exact dw_app tokB ha (tw_end tokB (by decide) hR).2
  · unfold valueL
    rw [if_pos htw, hq]
    show some (bs p.2.data.toList, (v ++ R).drop v.length) = _
    rw [bs_self, List.drop_left]
/-- What stands between two parameters. -/
theorem parsF_is : ∀ {r : List Par} {a : List UInt8}, parsT false r = some a → (r = [] ∧ a = []) ∨ ∃ p r' v b, r = p :: r' ∧ valueO p.2.data.toList = some v ∧ parsT false r' = some b ∧ a = 44 :: 32 :: (parN p v ++ b)
  | [], a, h => by cases h; exact .inl ⟨rfl, rfl⟩
  | p :: r', a, h => by
    rw [parsT] at h
    rcases hp : parT p with _ | q
    · rw [hp] at h; cases h
    · rw [hp] at h
      obtain ⟨b, hb, rfl⟩ := Option.map_eq_some_iff.1 h
      obtain ⟨v, hv, rfl⟩ := parT_is hp
      exact .inr ⟨p, r', v, b, rfl, hv, hb, by simp [sepP]⟩
theorem ends_app {a m : List UInt8} {r : List Par} (h : parsT false r = some a) (hm : Ends m) : Ends (a ++ m) := by
  rcases parsF_is h with ⟨_, rfl⟩ | ⟨p, r', v, b, _, _, _, rfl⟩
  · exact hm
  · exact .inr ⟨_, rfl⟩
theorem params_print : ∀ (r : List Par) (p : Par) (acc : List Par) (f : Nat) (v b m : List UInt8), (∀ q ∈ p :: r, isL q.1.data.toList = true) → Unlike acc (p :: r) → acc.length + (p :: r).length ≤ 16 →
    valueO p.2.data.toList = some v → parsT false r = some b → Ends m → nameL (m.dropWhile gapB) = none → (parN p v ++ b ++ m).length < f →
    paramsL f acc (parN p v ++ b ++ m) = .ok (acc ++ p :: r, m.dropWhile gapB)
  | r, p, acc, 0, v, b, m, _, _, _, _, _, _, _, hf => absurd hf (Nat.not_lt_zero _)
  | r, p, acc, f + 1, v, b, m, hi, hu, hl, hv, hb, hm, hnm, hf => by
    have hE := ends_app hb hm
    have hpar : paramL acc (parN p v ++ b ++ m) = .ok (p, b ++ m) := by
      unfold paramL
      rw [List.append_assoc, name_is (hi p (by simp))]
      simp only [value_is hv hE]
      rw [hu.1, if_neg (by simp), if_neg (by simp at hl; omega)]
    rw [paramsL, hpar]
    simp only [(tw_end blankB (by decide) hE).2, stops_end hE, if_true]
    rcases parsF_is hb with ⟨rfl, rfl⟩ | ⟨q, r', v', b', rfl, hv', hb', rfl⟩
    · rw [List.nil_append, hnm]
      rfl
    · obtain ⟨c, t, e, hc, _⟩ := isL_cons (hi q (by simp))
      have hg : (44 :: 32 :: (parN q v' ++ b') ++ m).dropWhile gapB = parN q v' ++ b' ++ m := by
        rw [List.cons_append, List.cons_append, List.dropWhile_cons_of_pos (by decide), List.dropWhile_cons_of_pos (by decide)]
        unfold parN
        rw [e]
        exact (dw_first gapB _ ((kinds c).1 hc).2.2.2.2).1
      rw [hg, List.append_assoc, name_is (hi q (by simp))]
      simp only [Option.isSome_some, if_true]
      rw [← List.append_assoc, params_print r' q (acc ++ [p]) f v' b' m (fun x hx => hi x (by simp at hx ⊢; exact .inr hx)) hu.2 (by simp at hl ⊢; omega) hv' hb' hm hnm (by simp [parN] at hf ⊢; omega)]
      simp
theorem token_none {p : Par} {v R : List UInt8} (hn : isL p.1.data.toList = true) (hv : valueO p.2.data.toList = some v) : tokenL (parN p v ++ R) = none := by
  obtain ⟨c, t, e, hc⟩ := value_first hv
  obtain ⟨k1, k2, k3, k4⟩ := first_kinds hc
  unfold tokenL
  rw [if_neg]
  rintro ⟨_, hs⟩
  unfold parN at hs
  by_cases ha : p.1.data.toList.all tkB = true
  · rw [List.append_assoc, List.cons_append, dw_app tkB ha (dw_first tkB _ (by decide)).1, List.dropWhile_cons_of_pos (by decide), e, List.cons_append, (dw_first eqB _ k4).1, (dw_first blankB _ k3).1] at hs
    unfold stopsL at hs
    exact k2 (by simpa using hs)
  · obtain ⟨c', t', e', _, hall⟩ := isL_cons hn
    have hdw : ∃ d u, p.1.data.toList.dropWhile tkB = d :: u ∧ d ∈ p.1.data.toList := by
      cases h : p.1.data.toList.dropWhile tkB with
      | nil => exact absurd ((dw_nil _ _).1 h) ha
      | cons d u => exact ⟨d, u, rfl, (List.dropWhile_sublist _).subset (by rw [h]; simp)⟩
    obtain ⟨d, u, hd, hmem⟩ := hdw
    have hdt : tokB d = true := List.all_eq_true.1 hall d hmem
    obtain ⟨j1, j2, _, j3, _⟩ := (kinds d).1 hdt
    have hfull : (p.1.data.toList ++ 61 :: v ++ R).dropWhile tkB = d :: (u ++ 61 :: v ++ R) := by
      rw [List.append_assoc, List.dropWhile_append, hd]
      simp
    rw [hfull, (dw_first eqB _ (beq_eq_false_iff_ne.2 j1)).1, (dw_first blankB _ j3).1] at hs
    unfold stopsL at hs
    exact j2 (by simpa using hs)
/-- A Token as it is read. -/
def TokOk (t : List UInt8) : Prop := ∃ b e, t = b ++ e ∧ b ≠ [] ∧ b.all tkB = true ∧ e.all eqB = true
/-- A challenge that can be told so. -/
def Good (x : Chal) : Prop := isL x.scheme.data.toList = true ∧ (x.token.size = 0 ∨ TokOk x.token.data.toList ∧ x.params = []) ∧ (∀ q ∈ x.params, isL q.1.data.toList = true) ∧ Unlike [] x.params ∧ x.params.length ≤ 16
theorem empty_of {s : ByteArray} (h : s.size = 0) : s = ⟨#[]⟩ := ByteArray.ext (Array.eq_empty_of_size_eq_zero h)
theorem tokOk_first {t : List UInt8} (h : TokOk t) : ∃ c u, t = c :: u ∧ tkB c = true := by
  obtain ⟨b, e, rfl, hb, ha, _⟩ := h
  cases b with
  | nil => exact absurd rfl hb
  | cons c u =>
    rw [List.all_cons, Bool.and_eq_true] at ha
    exact ⟨c, u ++ e, rfl, ha.1⟩
theorem token_is {t m : List UInt8} (h : TokOk t) (hm : Ends m) : tokenL (t ++ m) = some (bs t, m) := by
  obtain ⟨b, e, rfl, hb, ha, he⟩ := h
  have hem : (e ++ m).dropWhile tkB = e ++ m := by
    cases e with
    | nil => exact (tw_end tkB (by decide) hm).2
    | cons c u =>
      rw [List.all_cons, Bool.and_eq_true] at he
      have hc : c = 61 := by simpa [eqB] using he.1
      subst hc
      exact (dw_first tkB _ (by decide)).1
  have h1 : (b ++ e ++ m).dropWhile tkB = e ++ m := by rw [List.append_assoc]; exact dw_app tkB ha hem
  have h2 : (e ++ m).dropWhile eqB = m := dw_app eqB he (tw_end eqB (by decide) hm).2
  unfold tokenL
  rw [h1, h2, (tw_end blankB (by decide) hm).2, if_pos ⟨by have := List.length_pos_iff.2 hb; simp; omega, stops_end hm⟩]
  congr 3
  rw [List.length_append, Nat.add_sub_cancel, List.take_left]
theorem chal_print {x : Chal} {t m : List UInt8} (hg : Good x) (ht : chalT x = some t) (ahead : Nat) (ha : ahead < 8) (hm : Ends m) (hnm : nameL (m.dropWhile gapB) = none) : ∃ u, chalL ahead (t ++ m) = .ok (x, u) ∧ u.dropWhile gapB = m.dropWhile gapB := by
  obtain ⟨h1, h2, h3, h4, h5⟩ := hg
  obtain ⟨c, s', es, hc, hall⟩ := isL_cons h1
  unfold chalT at ht
  obtain ⟨b, hb, rfl⟩ := Option.map_eq_some_iff.1 ht
  have hne : x.scheme.data.toList ≠ [] := by rw [es]; simp
  rcases h2 with h2 | ⟨h2, hp⟩
  · have htk := empty_of h2
    have htt : tokT x.token = [] := by unfold tokT; rw [if_pos h2]
    rw [htt, List.append_nil]
    rcases hps : x.params with _ | ⟨p, r⟩
    · rw [hps] at hb
      cases hb
      rw [List.append_nil]
      refine ⟨m, ?_, rfl⟩
      unfold chalL
      rw [tw_app tokB hall (tw_end tokB (by decide) hm).1, dw_app tokB hall (tw_end tokB (by decide) hm).2, (tw_end blankB (by decide) hm).2, stops_end hm, if_neg hne, if_neg (by omega), if_pos rfl, bs_self]
      rcases x with ⟨a1, a2, a3⟩
      simp only at hps htk
      rw [hps, htk]
    · rw [hps] at hb h3 h4 h5
      rw [parsT] at hb
      rcases hpt : parT p with _ | q
      · rw [hpt] at hb; cases hb
      · rw [hpt] at hb
        obtain ⟨b', hb', rfl⟩ := Option.map_eq_some_iff.1 hb
        obtain ⟨v, hv, rfl⟩ := parT_is hpt
        have e1 : x.scheme.data.toList ++ (sepP true ++ 32 :: parN p v ++ b') ++ m = x.scheme.data.toList ++ 32 :: (parN p v ++ b' ++ m) := by simp [sepP]
        rw [e1]
        obtain ⟨d, u', ed, hd, _⟩ := isL_cons (h3 p (by simp))
        have hb1 : (32 :: (parN p v ++ b' ++ m)).dropWhile blankB = parN p v ++ b' ++ m := by
          rw [List.dropWhile_cons_of_pos (by decide)]
          unfold parN
          rw [ed]
          exact (dw_first blankB _ ((kinds d).1 hd).2.2.2.1).1
        have hst : stopsL (parN p v ++ b' ++ m) = false := by
          unfold parN
          rw [ed]
          exact beq_eq_false_iff_ne.2 ((kinds d).1 hd).2.1
        refine ⟨m.dropWhile gapB, ?_, ?_⟩
        · unfold chalL
          rw [tw_app tokB hall (dw_first tokB _ (by decide)).2, dw_app tokB hall (dw_first tokB _ (by decide)).1, hb1, hst, if_neg hne, if_neg (by omega), if_neg (by simp), if_neg (by unfold runL; rw [List.takeWhile_cons_of_pos (by decide)]; simp), bs_self]
          unfold insideL
          rw [List.append_assoc, token_none (h3 p (by simp)) hv, ← List.append_assoc]
          simp only []
          rw [params_print r p [] _ v b' m h3 h4 (by simpa using h5) hv hb' hm hnm (by omega)]
          rcases x with ⟨a1, a2, a3⟩
          simp only at hps htk
          rw [hps, htk]
          rfl
        · have : ∀ l : List UInt8, (l.dropWhile gapB).dropWhile gapB = l.dropWhile gapB := fun l => by
            induction l with
            | nil => rfl
            | cons c t ih =>
              by_cases h : gapB c = true
              · rw [List.dropWhile_cons_of_pos h, ih]
              · rw [List.dropWhile_cons_of_neg h, List.dropWhile_cons_of_neg h]
          exact this m
  · rw [hp] at hb
    cases hb
    obtain ⟨d, u', ed, hd⟩ := tokOk_first h2
    have hz : x.token.size ≠ 0 := by
      intro h
      have := empty_of h
      rw [this] at ed
      cases ed
    have htt : tokT x.token = 32 :: x.token.data.toList := by unfold tokT; rw [if_neg hz]
    rw [htt, List.append_nil, List.append_assoc, List.cons_append]
    have hb1 : (32 :: (x.token.data.toList ++ m)).dropWhile blankB = x.token.data.toList ++ m := by
      rw [List.dropWhile_cons_of_pos (by decide), ed]
      exact (dw_first blankB _ ((kinds d).2 hd).2.2).1
    have hst : stopsL (x.token.data.toList ++ m) = false := by
      rw [ed]
      exact beq_eq_false_iff_ne.2 ((kinds d).2 hd).2.1
    refine ⟨m, ?_, rfl⟩
    unfold chalL
    rw [tw_app tokB hall (dw_first tokB _ (by decide)).2, dw_app tokB hall (dw_first tokB _ (by decide)).1, hb1, hst, if_neg hne, if_neg (by omega), if_neg (by simp), if_neg (by unfold runL; rw [List.takeWhile_cons_of_pos (by decide)]; simp), bs_self]
    unfold insideL
    rw [token_is h2 hm]
    simp only []
    rcases x with ⟨a1, a2, a3⟩
    simp only at hp
    rw [hp, bs_self]
theorem head_next {x : Chal} {a T : List UInt8} (hg : Good x) (ha : chalT x = some a) (hT : Ends T) : nameL (a ++ T) = none ∧ (a ++ T).dropWhile gapB = a ++ T ∧ a ≠ [] := by
  obtain ⟨h1, h2, h3, h4, h5⟩ := hg
  obtain ⟨c, s', es, hc, hall⟩ := isL_cons h1
  unfold chalT at ha
  obtain ⟨b, hb, rfl⟩ := Option.map_eq_some_iff.1 ha
  have hrest : ∃ R, x.scheme.data.toList ++ tokT x.token ++ b ++ T = x.scheme.data.toList ++ R ∧ (Ends R ∨ ∃ d u, R = 32 :: d :: u ∧ d ≠ 61 ∧ blankB d = false) := by
    refine ⟨tokT x.token ++ b ++ T, by simp, ?_⟩
    rcases h2 with h2 | ⟨h2, hp⟩
    · have htt : tokT x.token = [] := by unfold tokT; rw [if_pos h2]
      rw [htt, List.nil_append]
      rcases hps : x.params with _ | ⟨p, r⟩
      · rw [hps] at hb
        cases hb
        exact .inl hT
      · rw [hps] at hb h3
        rw [parsT] at hb
        rcases hpt : parT p with _ | q
        · rw [hpt] at hb; cases hb
        · rw [hpt] at hb
          obtain ⟨b', hb', rfl⟩ := Option.map_eq_some_iff.1 hb
          obtain ⟨v, hv, rfl⟩ := parT_is hpt
          obtain ⟨d, u', ed, hd, _⟩ := isL_cons (h3 p (by simp))
          refine .inr ⟨d, u' ++ 61 :: v ++ b' ++ T, ?_, ((kinds d).1 hd).1, ((kinds d).1 hd).2.2.2.1⟩
          unfold parN
          rw [ed]
          simp [sepP]
    · rw [hp] at hb
      cases hb
      obtain ⟨d, u', ed, hd⟩ := tokOk_first h2
      have hz : x.token.size ≠ 0 := by
        intro h
        have := empty_of h
        rw [this] at ed
        cases ed
      have htt : tokT x.token = 32 :: x.token.data.toList := by unfold tokT; rw [if_neg hz]
      rw [htt, ed]
      exact .inr ⟨d, u' ++ [] ++ T, by simp, ((kinds d).2 hd).1, ((kinds d).2 hd).2.2⟩
  obtain ⟨R, hR, hcase⟩ := hrest
  refine ⟨?_, ?_, by rw [es]; simp⟩
  · rw [hR]
    unfold nameL
    rcases hcase with hE | ⟨d, u, rfl, hd1, hd2⟩
    · rw [dw_app tokB hall (tw_end tokB (by decide) hE).2, (tw_end blankB (by decide) hE).2]
      split
      · rfl
      · rcases hE with rfl | ⟨t, rfl⟩ <;> rfl
    · rw [dw_app tokB hall (dw_first tokB _ (by decide)).1, List.dropWhile_cons_of_pos (by decide), (dw_first blankB _ hd2).1]
      split
      · rfl
      · show Option.map _ (if d = 61 then some u else none) = none
        rw [if_neg hd1]
        rfl
  · rw [hR, es]
    exact (dw_first gapB _ ((kinds c).1 hc).2.2.2.2).1
theorem parse_gapsL {f : Nat} {acc : List Chal} {u v : List UInt8} (h : u.dropWhile gapB = v.dropWhile gapB) : parseL (f + 1) acc u = parseL (f + 1) acc v := by rw [parseL, parseL, h]
theorem print_ends : ∀ {xs : List Chal} {i : Nat} {T : List UInt8}, printL (i + 1) xs = .ok T → Ends T
  | [], i, T, h => by cases h; exact .inl rfl
  | x :: r, i, T, h => by
    rw [printL] at h
    rcases hc : chalT x with _ | a
    · rw [hc] at h; cases h
    · rw [hc] at h
      rcases hr : printL (i + 1 + 1) r with e | b
      · simp only [hr] at h; cases h
      · simp only [hr] at h
        cases h
        exact .inr ⟨32 :: (a ++ b), by simp [sepC]⟩
theorem parse_print : ∀ (xs : List Chal) (acc : List Chal) (f i : Nat) (T : List UInt8), (∀ x ∈ xs, Good x) → acc.length + xs.length ≤ 8 → printL i xs = .ok T → T.length < f → parseL f acc T = .ok (acc ++ xs)
  | xs, acc, 0, i, T, _, _, _, hf => absurd hf (Nat.not_lt_zero _)
  | [], acc, f + 1, i, T, _, _, h, _ => by
    cases h
    rw [parseL, List.append_nil]
    rfl
  | x :: r, acc, f + 1, i, T, hg, hl, h, hf => by
    rw [printL] at h
    rcases hc : chalT x with _ | a
    · rw [hc] at h; cases h
    · rw [hc] at h
      rcases hr : printL (i + 1) r with e | b
      · simp only [hr] at h; cases h
      · simp only [hr] at h
        cases h
        have hE := print_ends hr
        obtain ⟨n1, n2, n3⟩ := head_next (hg x (by simp)) hc hE
        have hdw : (sepC i ++ a ++ b).dropWhile gapB = a ++ b := by
          unfold sepC
          split
          · rw [List.nil_append]; exact n2
          · rw [List.append_assoc, List.cons_append, List.dropWhile_cons_of_pos (by decide), List.cons_append, List.dropWhile_cons_of_pos (by decide), List.nil_append]
            exact n2
        have hnb : nameL (b.dropWhile gapB) = none := by
          cases r with
          | nil => cases hr; rfl
          | cons y r' =>
            rw [printL] at hr
            rcases hc' : chalT y with _ | a'
            · rw [hc'] at hr; cases hr
            · rw [hc'] at hr
              rcases hr' : printL (i + 1 + 1) r' with e | b'
              · simp only [hr'] at hr; cases hr
              · simp only [hr'] at hr
                cases hr
                have hE' := print_ends hr'
                obtain ⟨k1, k2, _⟩ := head_next (hg y (by simp)) hc' hE'
                have : (sepC (i + 1) ++ a' ++ b').dropWhile gapB = a' ++ b' := by
                  unfold sepC
                  rw [if_neg (by omega), List.append_assoc, List.cons_append, List.dropWhile_cons_of_pos (by decide), List.cons_append, List.dropWhile_cons_of_pos (by decide), List.nil_append]
                  exact k2
                rw [this]
                exact k1
        obtain ⟨u, hu1, hu2⟩ := chal_print (hg x (by simp)) hc acc.length (by simp at hl; omega) hE hnb
        rw [parseL, hdw, if_neg (by intro e; exact n3 (List.append_eq_nil_iff.1 e).1), hu1]
        simp only []
        have hf0 : 0 < f := by
          have := List.length_pos_iff.2 n3
          simp at hf
          omega
        obtain ⟨f', rfl⟩ : ∃ f', f = f' + 1 := ⟨f - 1, by omega⟩
        rw [parse_gapsL hu2, parse_print r (acc ++ [x]) (f' + 1) (i + 1) b (fun y hy => hg y (by simp [hy])) (by simp at hl ⊢; omega) hr (by have := List.length_pos_iff.2 n3; simp at hf; omega)]
        simp
/-- What is written so is read as it is. -/
theorem ask_print {xs : List Chal} {T : List UInt8} (hg : ∀ x ∈ xs, Good x) (hl : xs.length ≤ 8) (h : printL 0 xs = .ok T) : askL T = .ok xs := by
  unfold askL
  rw [parse_print xs [] _ 0 T hg (by simpa using hl) h (by omega)]
  rfl
end Go.Proofs.YtlmfhbffknganaaGreatDoor

/- Challenges that can be told so, as the laws draw them. -/
namespace Go.Proofs.YtlmfhbffknganaaGreatDoor
open Go.RowKit Go.Shelf

theorem same_comm (a b : List UInt8) : sameL a b = sameL b a := by unfold sameL; exact Bool.beq_comm
theorem unlike_snoc : ∀ (l acc : List Par) (p : Par), Unlike acc l → toldL (acc ++ l) p.1 = false → Unlike acc (l ++ [p])
  | [], acc, p, _, h => ⟨by rw [List.append_nil] at h; exact h, trivial⟩
  | q :: r, acc, p, hu, h => ⟨hu.1, unlike_snoc r (acc ++ [q]) p hu.2 (by rw [List.append_assoc]; exact h)⟩
/-- The first j parameters are few bytes, of words unlike. -/
def InK (ps : List Par) (j : Nat) : Prop := (∀ p ∈ ps.take j, p.1.size + p.2.size ≤ 100 ∧ isL p.1.data.toList = true) ∧ Unlike [] (ps.take j)
theorem inK_step {ps : List Par} {j : Nat} {p : Par} (h : InK ps j) (hp : ps[j]? = some p) (hs : p.1.size + p.2.size ≤ 100) (hi : isL p.1.data.toList = true) (ht : toldL (ps.take j) p.1 = false) : InK ps (j + 1) := by
  obtain ⟨hj, e⟩ := List.getElem?_eq_some_iff.1 hp
  have et : ps.take (j + 1) = ps.take j ++ [p] := by rw [List.take_succ_eq_append_getElem hj, e]
  unfold InK
  rw [et]
  refine ⟨fun q hq => ?_, unlike_snoc _ _ _ h.2 ht⟩
  rcases List.mem_append.1 hq with h1 | h1
  · exact h.1 q h1
  · rw [List.mem_singleton.1 h1]; exact ⟨hs, hi⟩
/-- A challenge that is fair. -/
def FairC (x : Chal) : Prop := x.scheme.size + x.token.size ≤ 60 ∧ x.params.length ≤ 16 ∧ Good x ∧ ∀ p ∈ x.params, p.1.size + p.2.size ≤ 100
theorem trim_nil (l : List UInt8) (h : Lib.trimS l tkset.data.toList = []) : l.all tkB = true := by
  unfold Lib.trimS at h
  rw [trim_tk] at h
  have h1 : (Lib.trimRightS l tkset.data.toList).all tkB = true := (dw_nil _ _).1 h
  unfold Lib.trimRightS at h1
  have e : (fun c => tkset.data.toList.contains c) = tkB := funext tk_all
  rw [e, List.all_reverse] at h1
  have h2 : l.reverse.dropWhile tkB = [] := by
    cases hd : l.reverse.dropWhile tkB with
    | nil => rfl
    | cons c t =>
      rw [hd, List.all_cons, Bool.and_eq_true] at h1
      have := List.head?_dropWhile_not tkB l.reverse
      rw [hd] at this
      simp [h1.1] at this
  have h3 := (dw_nil _ _).1 h2
  rw [List.all_reverse] at h3
  exact h3
theorem fair_of {x : Chal} (h1 : x.scheme.size + x.token.size ≤ 60) (h2 : x.params.length ≤ 16) (h3 : isL x.scheme.data.toList = true) (h4 : x.token.size = 0 ∨ x.params = [] ∧ x.token.data.toList.all tkB = true) (h5 : InK x.params x.params.length) : FairC x := by
  unfold InK at h5
  rw [List.take_length] at h5
  refine ⟨h1, h2, ⟨h3, ?_, fun q hq => (h5.1 q hq).2, h5.2, h2⟩, fun p hp => (h5.1 p hp).1⟩
  by_cases h0 : x.token.size = 0
  · exact .inl h0
  · rcases h4 with h | h
    · exact absurd h h0
    · refine .inr ⟨⟨x.token.data.toList, [], by simp, fun e => h0 ?_, h.2, rfl⟩, h.1⟩
      rw [← len_data, e]
      rfl
theorem trimAll_any (p : ByteArray) (hp : p.size ≤ 5000) (w : World) :
    Calls Tryz.prog 29 #[.string p, .string tkset] w fun e w' => ∃ t : ByteArray, e = .returned (.string t) ∧ Hid (t.size = 0 → p.data.toList.all tkB = true) ∧ Below w.heap.size w w' := by
  refine (Any.strings_Trim_laid lays160 (by kernel_rfl) p tkset w (by omega) (by decide) (ascii_of_all (by decide +kernel))).mono ?_
  rintro e w' ⟨rfl, hb⟩
  refine ⟨_, rfl, fun h => trim_nil _ ?_, hb⟩
  exact List.eq_nil_of_length_eq_zero h
theorem any_find {f : Par → Bool} {ps : List Par} : ps.any f = (ps.find? f).isSome := by
  induction ps with
  | nil => rfl
  | cons p r ih =>
    rw [List.any_cons, List.find?_cons]
    cases f p
    · rw [Bool.false_or, ih]
    · rfl
set_option maxHeartbeats 1000000 in
theorem containsP_any (K : Nat) (c : Value) (f : Par → Bool) (ps : List Par) (a0 : Option Addr) (len cap b off : Nat) (hlen : len ≤ 1000000) (w : World) (hx : Pars w a0 len b off ps)
    (says : ∀ w', Below w.heap.size w w' → ∀ p ∈ ps, Calls Tryz.prog K #[.agg #[.string p.1, .string p.2], c] w' fun e w'' => e = .returned (.bool (f p)) ∧ Below w'.heap.size w' w'')
    (hen : ∀ (args : Array Value) (w : World), (callFunc K args).run Tryz.prog w = .ok (.enter K args) w) :
    Calls Tryz.prog 30 #[.slice a0 len cap, .func (.func K) #[] #[c]] w fun e w' => e = .returned (.bool (ps.any f)) ∧ Below w.heap.size w w' := by
  go_enter Tryz.func30, Tryz.ntmps30
  go_wp2_with fail
  refine (indexP_any K c f ps a0 len cap b off hlen _ hx says hen).mono ?_
  rintro e w' ⟨⟨r, rfl, hr⟩, hb⟩
  rcases hr.out with ⟨rfl, h⟩ | ⟨k, p, rfl, _, h⟩
  · have HA : Hid (ps.any f = false) := by show _ = _; rw [any_find, h]; rfl
    clear hr h
    go_wp2
    go_ret
    exact ⟨by rw [HA.out]; rfl, hb⟩
  · have HA : Hid (ps.any f = true) := by show _ = _; rw [any_find, h]; rfl
    have h0 : (0 : Int) ≤ (k : Int) := by omega
    clear hr h
    go_wp2
    go_ret
    exact ⟨by rw [HA.out]; first | rfl | simp [h0], hb⟩
set_option maxHeartbeats 1000000 in
theorem fairOne_any (q : Par) (n : ByteArray) (hq : q.1.size ≤ 4000) (hn : n.size ≤ 4000) (c : Nat) (w : World) (hc : w.cell? ⟨c, 0, none⟩ = some (.string n)) :
    Calls Tryz.prog 31 #[.agg #[.string q.1, .string q.2], .pointer (some ⟨c, 0, none⟩)] w fun e w' => e = .returned (.bool (sameL n.data.toList q.1.data.toList)) ∧ Below w.heap.size w w' := by
  have hcl : c < w.heap.size := by
    rcases Nat.lt_or_ge c w.heap.size with h1 | h1
    · exact h1
    · simp [World.cell?, Array.getElem?_eq_none h1] at hc
  go_enter Tryz.func31, Tryz.ntmps31
  go_wp2_with fail
  refine (same_any _ _ hn hq _).mono ?_
  rintro e w2 ⟨rfl, hb2⟩
  go_wp2
  go_ret
  exact ⟨rfl, ((Below.refl _ _).alloc (Nat.le_refl _) _).trans (hb2.mono (by simp))⟩
end Go.Proofs.YtlmfhbffknganaaGreatDoor

/- Whether challenges are fair. -/
namespace Go.Proofs.YtlmfhbffknganaaGreatDoor
open Go.RowKit Go.Shelf

theorem mt_yes {s : ByteArray} (h : s.size = 0) : s.toList.isEmpty = true := by
  rw [ByteArray.toList_eq]
  have : s.data.toList.length = 0 := by rw [Array.length_toList]; exact h
  rw [List.eq_nil_of_length_eq_zero this]
  rfl
theorem mt_no {s : ByteArray} (h : s.size ≠ 0) : s.toList.isEmpty = false := by
  rw [ByteArray.toList_eq]
  cases e : s.data.toList with
  | nil =>
    have : s.data.toList.length = s.size := Array.length_toList
    rw [e] at this
    exact absurd this.symm h
  | cons x r => rfl
theorem fair_all {cs : List ChV} {k : Nat} {c : ChV} (h : ∀ d ∈ cs.take k, FairC d.x) (hc : cs[k]? = some c) (hf : FairC c.x) : ∀ d ∈ cs.take (k + 1), FairC d.x := by
  obtain ⟨hk, e⟩ := List.getElem?_eq_some_iff.1 hc
  rw [List.take_succ_eq_append_getElem hk, e]
  intro d hd
  rcases List.mem_append.1 hd with h1 | h1
  · exact h d h1
  · rw [List.mem_singleton.1 h1]; exact hf
theorem pars_take {w : World} {a0 : Option Addr} {len b off : Nat} {ps : List Par} (h : Pars w a0 len b off ps) (j : Nat) (hj : j ≤ len) : Pars w a0 j b off (ps.take j) := by
  have hl := h.len_eq
  refine ⟨by rw [List.length_take]; omega, fun h0 => h.lies (by omega), fun i p hp => h.one i p ?_, fun i p hp => h.two i p ?_⟩
  · rw [List.getElem?_take] at hp
    split at hp
    · exact hp
    · cases hp
  · rw [List.getElem?_take] at hp
    split at hp
    · exact hp
    · cases hp
/-- What fair answers. -/
def FarAns (cs : List ChV) (len : Nat) (e : Ending) : Prop := ∃ r : Bool, e = .returned (.bool r) ∧ (r = true → len ≤ 8 ∧ ∀ c ∈ cs, FairC c.x)
theorem far_no (cs : List ChV) (len : Nat) : FarAns cs len (.returned (.bool false)) := ⟨false, rfl, fun e => by cases e⟩
set_option maxRecDepth 100000 in
set_option maxHeartbeats 8000000 in
theorem fair_any (cs : List ChV) (hh : ∀ c ∈ cs, Held c.x) (a0 : Option Addr) (len cap b off : Nat) (hlen : len ≤ 9223372036854775807) (hpl : ∀ c ∈ cs, Room c) (w : World) (hx : Chals w a0 len b off cs) :
    Calls Tryz.prog 8 #[.slice a0 len cap] w fun e w' => FarAns cs len e ∧ Below w.heap.size w w' := by
  have HX : Hid (Chals w a0 len b off cs) := hx
  have hl := hx.len_eq
  clear hx
  by_cases h8 : (8 : Int) < (len : Int)
  · go_enter Tryz.func8, Tryz.ntmps8
    go_wp2
    go_ret
    exact ⟨far_no _ _, Below.refl _ _⟩
  have HH : Hid (∀ c ∈ cs, Held c.x) := hh
  have HPL : Hid (∀ c ∈ cs, Room c) := hpl
  clear hh hpl
  go_enter Tryz.func8, Tryz.ntmps8
  go_wp2
  go_loopw [12] (fun i wr => ∃ (k : Nat), k ≤ len ∧ i = .int .i64 k ∧ Hid ((∀ c ∈ cs.take k, FairC c.x) ∧ Below w.heap.size w wr)) (fun i _ => len - (intOf i).toNat)
  case atStart => exact ⟨0, Nat.zero_le _, rfl, ⟨fun c hc => by simp at hc, Below.refl _ _⟩⟩
  case round =>
    obtain ⟨k, hk, rfl, HK⟩ := hrel
    by_cases hlt : k < len
    · obtain ⟨c, hck⟩ : ∃ c, cs[k]? = some c := ⟨cs[k]'(by omega), List.getElem?_eq_getElem (by omega)⟩
      have HC : Hid (cs[k]? = some c) := hck
      have HM : Hid (c ∈ cs) := List.mem_of_getElem? hck
      have hX := HX.out.below HK.out.2
      obtain ⟨ha0, hbl⟩ := hX.lies (by omega)
      have hc1 := hX.one k c hck
      have hc2 := hX.two k c hck
      have hc3 := hX.three k c hck
      obtain ⟨hrc, hrm, hpl⟩ := HPL.out c HM.out
      obtain ⟨ca, HCA⟩ : ∃ ca, Hid (c.a = ca) := ⟨_, rfl⟩
      have hPP := hX.pars c HM.out
      unfold ChOk at hPP
      rw [HCA.out] at hc3 hPP
      obtain ⟨hz1, hz2, hz3⟩ := HH.out c HM.out
      have HZ3 : Hid (∀ p ∈ c.x.params, p.1.size ≤ 140737488355328 ∧ p.2.size ≤ 140737488355328) := hz3
      have hb1 : Below wr.heap.size wr (wr.alloc (.cells #[.string c.x.scheme, .string c.x.token, .slice ca c.len c.cap] 34)) := (Below.refl _ _).alloc (Nat.le_refl _) _
      have HP : Hid (Pars (wr.alloc (.cells #[.string c.x.scheme, .string c.x.token, .slice ca c.len c.cap] 34)) ca c.len c.b c.off c.x.params) := hPP.below hb1
      have HB1 : Hid (Below w.heap.size w (wr.alloc (.cells #[.string c.x.scheme, .string c.x.token, .slice ca c.len c.cap] 34))) := HK.out.2.trans (hb1.mono HK.out.2.size)
      have hkL : (k : Int) < (len : Int) := by omega
      subst ha0
      clear hck hX hb1 hz3 hPP
      by_cases h60 : (60 : Int) < (c.x.scheme.size : Int) + (c.x.token.size : Int)
      · go_wp2
        go_ret
        exact ⟨far_no _ _, HB1.out⟩
      by_cases h16 : (16 : Int) < (c.len : Int)
      · go_wp2
        go_ret
        exact ⟨far_no _ _, HB1.out⟩
      cases hi : isL c.x.scheme.data.toList
      · go_wp2_with fail
        refine (is_any c.x.scheme (by omega) _).mono ?_
        rintro e w2 ⟨rfl, hw⟩
        obtain rfl := hw.symm
        rw [hi]
        go_wp2
        go_ret
        exact ⟨far_no _ _, HB1.out⟩
      have HI : Hid (isL c.x.scheme.data.toList = true) := hi
      clear hi
      have hbox : ∀ (j : Nat) (v : Value), #[Value.string c.x.scheme, .string c.x.token, .slice ca c.len c.cap][j]? = some v → (wr.alloc (.cells #[.string c.x.scheme, .string c.x.token, .slice ca c.len c.cap] 34)).cell? ⟨wr.heap.size, j, none⟩ = some v := fun j v hv => (World.cell?_alloc_mark _ _ _ _ _).trans hv
      go_wp2_with fail
      refine (is_any c.x.scheme (by omega) _).mono ?_
      rintro e w2 ⟨rfl, hw⟩
      obtain rfl := hw.symm
      rw [HI.out]
      clear hw
      have hwz : (wr.alloc (.cells #[.string c.x.scheme, .string c.x.token, .slice ca c.len c.cap] 34)).heap.size = wr.heap.size + 1 := by simp
      have b1 := hbox 1 _ rfl
      have b2 := hbox 2 _ rfl
      generalize hW4 : wr.alloc (.cells #[.string c.x.scheme, .string c.x.token, .slice ca c.len c.cap] 34) = W4 at HP HB1 hwz b1 b2 ⊢
      clear hW4 hbox
      by_cases h0 : c.x.token.size = 0
      · have he : c.x.token.toList.isEmpty = true := mt_yes h0
        have HBX : Hid (∀ w', Below W4.heap.size W4 w' → w'.cell? ⟨wr.heap.size, 2, none⟩ = some (.slice ca c.len c.cap)) := fun w' hb => (hb.cell (p := ⟨wr.heap.size, 2, none⟩) (by show wr.heap.size < _; omega)).trans b2
        go_wp2
        go_loopw [56] (fun i w5 => ∃ (j : Nat), j ≤ c.len ∧ i = .int .i64 j ∧ Hid (InK c.x.params j ∧ Below W4.heap.size W4 w5)) (fun i _ => c.len - (intOf i).toNat)
        case atStart => exact ⟨0, Nat.zero_le _, rfl, ⟨⟨fun p hp => by simp at hp, trivial⟩, Below.refl _ _⟩⟩
        case round =>
          obtain ⟨j, hj, rfl, HJ⟩ := hrel
          by_cases hjl : j < c.len
          · obtain ⟨p, hpj⟩ : ∃ p, c.x.params[j]? = some p := ⟨c.x.params[j]'hjl, List.getElem?_eq_getElem hjl⟩
            have HPJ : Hid (c.x.params[j]? = some p) := hpj
            have hP := HP.out.below HJ.out.2
            obtain ⟨hca, hcb⟩ := hP.lies (by omega)
            have hp1 := hP.one j p hpj
            have hp2 := hP.two j p hpj
            obtain ⟨hz4, hz5⟩ := HZ3.out p (List.mem_of_getElem? hpj)
            have hb6 : Below wr.heap.size wr (wr.alloc (.cells #[.string p.1, .string p.2] 44)) := (Below.refl _ _).alloc (Nat.le_refl _) _
            have HP6 : Hid (Pars (wr.alloc (.cells #[.string p.1, .string p.2] 44)) ca j c.b c.off (c.x.params.take j)) := (pars_take hP j hj).below hb6
            have HB6 : Hid (Below W4.heap.size W4 (wr.alloc (.cells #[.string p.1, .string p.2] 44))) := HJ.out.2.trans (hb6.mono HJ.out.2.size)
            have HB7 : Hid (Below w.heap.size w (wr.alloc (.cells #[.string p.1, .string p.2] 44))) := HB1.out.trans (HB6.out.mono HB1.out.size)
            have b6 := HBX.out _ HB6.out
            have hcell : (wr.alloc (.cells #[.string p.1, .string p.2] 44)).cell? ⟨wr.heap.size, 0, none⟩ = some (.string p.1) := World.cell?_alloc_mark _ _ _ _ _
            have HN : Hid ((wr.alloc (.cells #[.string p.1, .string p.2] 44)).cell? ⟨wr.heap.size, 0, none⟩ = some (.string p.1) ∧ wr.heap.size < (wr.alloc (.cells #[.string p.1, .string p.2] 44)).heap.size) := ⟨hcell, by simp⟩
            clear hcell
            have hjL : (j : Int) < (c.len : Int) := by omega
            subst hca
            clear hpj hP hb6
            by_cases h100 : (100 : Int) < (p.1.size : Int) + (p.2.size : Int)
            · go_wp2
              go_ret
              exact ⟨far_no _ _, HB7.out⟩
            cases hi : isL p.1.data.toList
            · go_wp2_with fail
              refine (is_any p.1 (by omega) _).mono ?_
              rintro e w2 ⟨rfl, hw⟩
              obtain rfl := hw.symm
              rw [hi]
              go_wp2
              go_ret
              exact ⟨far_no _ _, HB7.out⟩
            have HIP : Hid (isL p.1.data.toList = true) := hi
            clear hi
            go_wp2_with fail
            refine (is_any p.1 (by omega) _).mono ?_
            rintro e w2 ⟨rfl, hw⟩
            obtain rfl := hw.symm
            rw [HIP.out]
            clear hw
            have hjc : j ≤ c.cap := by omega
            have HSY : Hid (∀ w', Below (wr.alloc (.cells #[.string p.1, .string p.2] 44)).heap.size (wr.alloc (.cells #[.string p.1, .string p.2] 44)) w' → ∀ q ∈ c.x.params.take j, Calls Tryz.prog 31 #[.agg #[.string q.1, .string q.2], .pointer (some ⟨wr.heap.size, 0, none⟩)] w' fun e w'' => e = .returned (.bool (sameL p.1.data.toList q.1.data.toList)) ∧ Below w'.heap.size w' w'') := fun w' hb q hq => fairOne_any q p.1 (by have := (HJ.out.1.1 q hq).1; omega) (by omega) _ _ ((hb.cell (p := ⟨wr.heap.size, 0, none⟩) HN.out.2).trans HN.out.1)
            generalize hW6 : wr.alloc (.cells #[.string p.1, .string p.2] 44) = W6 at b6 HP6 HB6 HB7 HN HSY ⊢
            clear hW6
            go_wp2_with fail
            refine (containsP_any 31 _ (fun q => sameL p.1.data.toList q.1.data.toList) (c.x.params.take j) _ j _ c.b c.off (by omega) W6 HP6.out HSY.out (fun _ _ => rfl)).mono ?_
            rintro e w7 ⟨rfl, hb7⟩
            have HB8 : Hid (Below W4.heap.size W4 w7 ∧ Below w.heap.size w w7) := ⟨HB6.out.trans (hb7.mono HB6.out.size), HB7.out.trans (hb7.mono HB7.out.size)⟩
            clear hb7
            cases ht : (c.x.params.take j).any (fun q => sameL p.1.data.toList q.1.data.toList)
            · have HT : Hid (toldL (c.x.params.take j) p.1 = false) := by
                show _ = _
                rw [← ht]
                unfold toldL
                congr 1
                funext q
                exact same_comm _ _
              go_wp2
              go_roundw
              case rel => exact ⟨j + 1, by omega, by go_num, ⟨inK_step HJ.out.1 HPJ.out (by omega) HIP.out HT.out, HB8.out.1⟩⟩
              case measure => simp [intOf]; omega
            · go_wp2
              go_ret
              exact ⟨far_no _ _, HB8.out.2⟩
          · have hjL : ¬ (j : Int) < (c.len : Int) := by omega
            have HF : Hid (FairC c.x) := fair_of (by omega) (by unfold ChV.len at h16; omega) HI.out (.inl h0) (by
              have e0 : j = c.x.params.length := by unfold ChV.len at hj hjl; omega
              rw [← e0]
              exact HJ.out.1)
            have HB5 : Hid (Below w.heap.size w wr) := HB1.out.trans (HJ.out.2.mono HB1.out.size)
            go_wp2
            go_roundw
            case rel => exact ⟨k + 1, by omega, by go_num, ⟨fair_all HK.out.1 HC.out HF.out, HB5.out⟩⟩
            case measure => simp [intOf]; omega
      · have he : c.x.token.toList.isEmpty = false := mt_no h0
        by_cases hp0 : (0 : Int) < (c.len : Int)
        · go_wp2
          go_ret
          exact ⟨far_no _ _, HB1.out⟩
        · go_wp2_with fail
          refine (trimAll_any c.x.token (by omega) _).mono ?_
          rintro e w3 ⟨t, rfl, HT, hb3⟩
          have b3 : w3.cell? ⟨wr.heap.size, 2, none⟩ = some (.slice ca c.len c.cap) := (hb3.cell (p := ⟨wr.heap.size, 2, none⟩) (by show wr.heap.size < _; omega)).trans b2
          have HB3 : Hid (Below w.heap.size w w3) := HB1.out.trans (hb3.mono HB1.out.size)
          by_cases ht0 : t.size = 0
          · have he2 : t.toList.isEmpty = true := mt_yes ht0
            have HF : Hid (FairC c.x) := fair_of (by omega) (by unfold ChV.len at h16; omega) HI.out (.inr ⟨List.eq_nil_of_length_eq_zero (by unfold ChV.len at hp0; omega), HT.out ht0⟩) (by
              have e0 : c.x.params = [] := List.eq_nil_of_length_eq_zero (by unfold ChV.len at hp0; omega)
              rw [e0]
              exact ⟨fun p hp => (by cases hp), trivial⟩)
            clear hb3
            go_wp2
            refine wp_loop_rounds 1 ?_
            rw [rounds_succ]
            go_wp2
            go_roundw
            case rel => exact ⟨k + 1, by omega, by go_num, ⟨fair_all HK.out.1 HC.out HF.out, HB3.out⟩⟩
            case measure => simp [intOf]; omega
          · have he2 : t.toList.isEmpty = false := mt_no ht0
            clear hb3
            go_wp2
            go_ret
            exact ⟨far_no _ _, HB3.out⟩
    · have HA : Hid (∀ c ∈ cs, FairC c.x) := by
        have := HK.out.1
        rw [List.take_of_length_le (by omega)] at this
        exact this
      go_wp2
      go_ret
      exact ⟨⟨_, rfl, fun _ => ⟨by omega, HA.out⟩⟩, HK.out.2⟩
end Go.Proofs.YtlmfhbffknganaaGreatDoor

/- A row of parameters, cloned. -/
namespace Go.Proofs.YtlmfhbffknganaaGreatDoor
open Go.RowKit

theorem parCells_len (ps : List Par) : (parCells ps).length = ps.length * 2 := by
  induction ps with
  | nil => rfl
  | cons c r ih => simp only [parCells, List.length_cons, ih]; omega
theorem parCells_one (ps : List Par) : ∀ u ∈ parCells ps, u.oneCell' = true := by
  induction ps with
  | nil => intro u hu; cases hu
  | cons c r ih =>
    intro u hu
    simp only [parCells, List.mem_cons] at hu
    rcases hu with rfl | rfl | hu
    · rfl
    · rfl
    · exact ih u hu
theorem parCells_of : ∀ (ps : List Par) (j : Nat) (u : Value), (parCells ps)[j]? = some u → ∃ (i : Nat) (p : Par), ps[i]? = some p ∧ (j = i * 2 ∧ u = .string p.1 ∨ j = i * 2 + 1 ∧ u = .string p.2)
  | [], j, u, h => by simp [parCells] at h
  | p :: r, 0, u, h => ⟨0, p, rfl, .inl ⟨rfl, by simpa [parCells] using h.symm⟩⟩
  | p :: r, 1, u, h => ⟨0, p, rfl, .inr ⟨rfl, by simpa [parCells] using h.symm⟩⟩
  | p :: r, j + 2, u, h => by
    obtain ⟨i, d, h1, h2⟩ := parCells_of r j u (by simpa [parCells] using h)
    refine ⟨i + 1, d, by simpa using h1, ?_⟩
    rcases h2 with ⟨e, h2⟩ | ⟨e, h2⟩
    · exact .inl ⟨by omega, h2⟩
    · exact .inr ⟨by omega, h2⟩
theorem pars_cells {w : World} {a0 : Option Addr} {len b off : Nat} {ps : List Par} (h : Pars w a0 len b off ps) (j : Nat) (u : Value) (hu : (parCells ps)[j]? = some u) : w.cell? ((⟨b, off, none⟩ : Addr).add j) = some u := by
  obtain ⟨i, c, h1, h2⟩ := parCells_of ps j u hu
  rw [WideShapes.add_plain]
  rcases h2 with ⟨rfl, rfl⟩ | ⟨rfl, rfl⟩
  · exact h.one i c h1
  · rw [← Nat.add_assoc]; exact h.two i c h1
theorem wp_clonep {ops : Array Oper} {rest : List Oper} {o : Oper} {a : Act} {Q : Exit → Act → World → Prop} (hgd : o.guard = none) (s x : Operand)
    (ho : o.op = .call { callee := .builtin .append, args := #[s, x], argTypes := #[32, 32] })
    (w : World) (hs : a.eval s = .slice (some ⟨w.heap.size, 0, none⟩) 0 0) (ps : List Par) (b off len cap : Nat) (hx : a.eval x = .slice (some ⟨b, off, none⟩) len cap) (hX : Pars w (some ⟨b, off, none⟩) len b off ps) (h0 : 0 < len) (hl : len ≤ 1000)
    (h : ∀ g cap w', w'.ownsRow w.heap.size 44 2 (.slice (some ⟨g, 0, none⟩) len cap) len (parCells ps) → Below w.heap.size w w' → wpList Tryz.prog ops Q rest (a.put o.dst (.slice (some ⟨g, 0, none⟩) len cap)) w') :
    wpList Tryz.prog ops Q (o :: rest) a (w.alloc (.cells #[] 44)) := by
  have hb1 : Below w.heap.size w (w.alloc (.cells #[] 44)) := (Below.refl _ _).alloc (Nat.le_refl _) _
  obtain ⟨i0, hi0, hz0, hz1, hz2⟩ := info_parts infoP
  have hlen := hX.len_eq
  refine wpList_append_lies _ hgd s x 32 ho w.heap.size 44 i0 (.agg #[.string ⟨#[]⟩, .string ⟨#[]⟩]) 2 32 Tryz.underlying32 hi0 hz0 hz1 hz2 rfl (by omega) _ 0 [] hs ⟨rfl, .inr ⟨w.heap.size, 0, #[], rfl, Nat.le_refl _, heap_alloc_new w _, Nat.le_refl _, Nat.zero_le _, rfl, rfl⟩⟩ ⟨b, off, none⟩ len cap (parCells ps) hx (by rw [parCells_len, hlen])
    (pars_cells (hX.below hb1)) (parCells_one ps) h0 (by unfold maxLen; omega) (by omega) (by simp) _ rfl ?_
  intro g cap' w' hown1 hgrow _ hlt
  rw [Nat.zero_add, List.nil_append] at hown1
  rw [Nat.zero_add]
  exact h g cap' w' hown1 (hb1.grown hgrow hb1.size (fun i hi => by have hi' : w.heap.size = i := by simpa [Value.ownBlock] using hi
                                                                    omega))
theorem sliceNilP (p : Addr) (n c : Nat) (w : World) : (binOp .eql 32 (.slice (some p) n c) (.slice none 0 0)).run Tryz.prog w = .ok (.bool false) w := by kernel_rfl
theorem sliceNoneP (n c : Nat) (w : World) : (binOp .eql 32 (.slice none n c) (.slice none 0 0)).run Tryz.prog w = .ok (.bool true) w := by kernel_rfl
set_option maxRecDepth 100000 in
set_option maxHeartbeats 2000000 in
theorem cloneP_any (ps : List Par) (a0 : Option Addr) (len cap b off : Nat) (hlen : len ≤ 1000) (w : World) (hx : Pars w a0 len b off ps) (h0 : 0 < len) :
    Calls Tryz.prog 18 #[.slice a0 len cap] w fun e w' => (∃ g cap', e = .returned (.slice (some ⟨g, 0, none⟩) len cap') ∧ w'.ownsRow w.heap.size 44 2 (.slice (some ⟨g, 0, none⟩) len cap') len (parCells ps)) ∧ Below w.heap.size w w' := by
  obtain ⟨ha0, hbl⟩ := hx.lies h0
  subst ha0
  have HX : Hid (Pars w (some ⟨b, off, none⟩) len b off ps) := hx
  clear hx
  have hnil := sliceNilP
  go_enter Tryz.func18, Tryz.ntmps18
  go_wp2_with (at_builtin; refine wp_clonep rfl _ _ rfl w rfl ps b off len cap rfl HX.out h0 hlen ?_; intro g cap' w' hown hb)
  go_ret
  exact ⟨⟨_, _, rfl, hown⟩, hb⟩
end Go.Proofs.YtlmfhbffknganaaGreatDoor

/- A row of parameters in a block of its own, that may be written; a row cloned. -/
namespace Go.Proofs.YtlmfhbffknganaaGreatDoor
open Go.RowKit

def RowsP (cur : Array Value) (ps : List Par) : Prop := ∀ (k : Nat) (p : Par), ps[k]? = some p → cur[k * 2]? = some (.string p.1) ∧ cur[k * 2 + 1]? = some (.string p.2)
/-- A row of parameters in a block of its own, that may be written. -/
def RowPW (w : World) (g : Nat) (ps : List Par) : Prop := ∃ cur, w.heap[g]? = some (.cells cur 44 (0, 0)) ∧ RowsP cur ps
theorem RowPW.cells {w : World} {g : Nat} {ps : List Par} (h : RowPW w g ps) (k : Nat) (p : Par) (hk : ps[k]? = some p) : w.cell? ⟨g, k * 2, none⟩ = some (.string p.1) ∧ w.cell? ⟨g, k * 2 + 1, none⟩ = some (.string p.2) := by
  obtain ⟨cur, h1, h2⟩ := h
  obtain ⟨r1, r2⟩ := h2 k p hk
  exact ⟨by simp [World.cell?, h1, r1], by simp [World.cell?, h1, r2]⟩
theorem RowPW.free {w : World} {g : Nat} {ps : List Par} (h : RowPW w g ps) (j : Nat) : w.frozen? ⟨g, j, none⟩ = false := by
  obtain ⟨cur, h1, _⟩ := h
  simp [World.frozen?, h1]
theorem RowPW.lt {w : World} {g : Nat} {ps : List Par} (h : RowPW w g ps) : g < w.heap.size := by
  obtain ⟨cur, h1, _⟩ := h
  exact (Array.getElem?_eq_some_iff.1 h1).1
theorem RowPW.below {w w' : World} {g : Nat} {ps : List Par} (h : RowPW w g ps) (hb : Below w.heap.size w w') : RowPW w' g ps := by
  obtain ⟨cur, h1, h2⟩ := h
  exact ⟨cur, (hb.block g (Array.getElem?_eq_some_iff.1 h1).1).trans h1, h2⟩
theorem RowPW.name {w : World} {g : Nat} {ps : List Par} (h : RowPW w g ps) (i : Nat) (p : Par) (hi : ps[i]? = some p) (n : ByteArray) : RowPW (w.setCell ⟨g, i * 2, none⟩ (.string n)) g (ps.set i (n, p.2)) := by
  obtain ⟨cur, h1, h2⟩ := h
  refine ⟨cur.setIfInBounds (i * 2) (.string n), by simp [World.setCell, Array.getElem?_modify, h1], fun k q hq => ?_⟩
  have hs := (Array.getElem?_eq_some_iff.1 (h2 i p hi).1).1
  rw [List.getElem?_set] at hq
  by_cases e : i = k
  · subst e
    rw [if_pos rfl, if_pos (List.getElem?_eq_some_iff.1 hi).1] at hq
    cases hq
    refine ⟨by rw [Array.getElem?_setIfInBounds, if_pos rfl, if_pos hs], ?_⟩
    rw [Array.getElem?_setIfInBounds, if_neg (by omega)]
    exact (h2 i p hi).2
  · rw [if_neg e] at hq
    rw [Array.getElem?_setIfInBounds, if_neg (by omega), Array.getElem?_setIfInBounds, if_neg (by omega)]
    exact h2 k q hq
theorem rowPW_of {w : World} {B g n cap : Nat} {ps : List Par} (hl : ps.length = n) (h : w.ownsRow B 44 2 (.slice (some ⟨g, 0, none⟩) n cap) n (parCells ps)) : RowPW w g ps ∧ B ≤ g := by
  rcases h.2 with ⟨e, _⟩ | ⟨g', cap', cur, e, hB, hh, _, _, _, ht⟩
  · cases e
  · injection e with e1 e2 e3
    injection e1 with e1
    injection e1 with e1
    subst e1
    refine ⟨⟨cur, hh, fun k c hk => ?_⟩, hB⟩
    obtain ⟨h1, h2⟩ := parCells_at ps k c hk
    have hkl : k < n := by rw [← hl]; exact (List.getElem?_eq_some_iff.1 hk).1
    have tk : ∀ j v, j < n * 2 → (parCells ps)[j]? = some v → cur[j]? = some v := fun j v hj hv => by
      rw [← ht, List.getElem?_take, if_pos hj] at hv
      simpa using hv
    exact ⟨tk _ _ (by omega) h1, tk _ _ (by omega) h2⟩
theorem RowPW.pars {w : World} {g n : Nat} {ps : List Par} (h : RowPW w g ps) (hn : ps.length = n) : Pars w (some ⟨g, 0, none⟩) n g 0 ps :=
  ⟨hn, fun _ => ⟨rfl, h.lt⟩, fun j p hp => by rw [Nat.zero_add]; exact (h.cells j p hp).1, fun j p hp => by rw [Nat.zero_add]; exact (h.cells j p hp).2⟩
theorem cloneP_none (a : Option Addr) (cap : Nat) (w : World) : Calls Tryz.prog 18 #[.slice a 0 cap] w fun e w' => (∃ a' cap', e = .returned (.slice a' 0 cap')) ∧ Below w.heap.size w w' := by
  have h1 := sliceNilP
  have h2 := sliceNoneP
  cases a with
  | none =>
    go_enter Tryz.func18, Tryz.ntmps18
    go_wp2
    go_ret
    exact ⟨⟨_, _, rfl⟩, Below.refl _ _⟩
  | some p =>
    go_enter Tryz.func18, Tryz.ntmps18
    go_wp2
    go_ret
    exact ⟨⟨_, _, rfl⟩, (Below.refl _ _).alloc (Nat.le_refl _) _⟩
/-- The row of names in small letters, where it lies. -/
def CloAns (w : World) (ps : List Par) (n : Nat) (v : Value) (B : Nat) : Prop := ∃ a cap, v = .slice a n cap ∧ (n = 0 ∨ ∃ g, a = some ⟨g, 0, none⟩ ∧ RowPW w g ps ∧ B ≤ g)
theorem cloneP_all (ps : List Par) (a0 : Option Addr) (len cap b off : Nat) (hlen : len ≤ 1000) (w : World) (hx : Pars w a0 len b off ps) :
    Calls Tryz.prog 18 #[.slice a0 len cap] w fun e w' => (∃ v, e = .returned v ∧ CloAns w' ps len v w.heap.size) ∧ Below w.heap.size w w' := by
  rcases Nat.eq_zero_or_pos len with h0 | h0
  · subst h0
    refine (cloneP_none a0 cap w).mono ?_
    rintro e w' ⟨⟨a', cap', rfl⟩, hb⟩
    exact ⟨⟨_, rfl, a', cap', rfl, .inl rfl⟩, hb⟩
  · refine (cloneP_any ps a0 len cap b off hlen w hx h0).mono ?_
    rintro e w' ⟨⟨g, cap', rfl, hown⟩, hb⟩
    obtain ⟨h1, h2⟩ := rowPW_of hx.len_eq hown
    exact ⟨⟨_, rfl, _, cap', rfl, .inr ⟨g, rfl, h1, h2⟩⟩, hb⟩
end Go.Proofs.YtlmfhbffknganaaGreatDoor

/- The digits of a text by the program, and the text of digits by the program, told as lists of bytes. -/
namespace Go.Proofs.YtlmfhbffknganaaGreatDoor
open Go.RowKit

def digs : List UInt8 := [48, 49, 50, 51, 52, 53, 54, 55, 56, 57, 97, 98, 99, 100, 101, 102]
def dig (n : Nat) : UInt8 := digs.getD n 0
def hexL : List UInt8 → List UInt8
  | [] => []
  | c :: r => dig (c.toNat / 16) :: dig (c.toNat % 16) :: hexL r

theorem hexL_append (a b : List UInt8) : hexL (a ++ b) = hexL a ++ hexL b := by
  induction a with
  | nil => rfl
  | cons c r ih => simp only [List.cons_append, hexL, ih]
theorem hexL_length (l : List UInt8) : (hexL l).length = 2 * l.length := by
  induction l with
  | nil => rfl
  | cons c r ih => simp only [hexL, List.length_cons, ih]; omega
theorem digs_at (p : Nat) (h : p < 16) : ({ data := #[48, 49, 50, 51, 52, 53, 54, 55, 56, 57, 97, 98, 99, 100, 101, 102] } : ByteArray)[p]'h = dig p := by
  have : ∀ p : Fin 16, ({ data := #[48, 49, 50, 51, 52, 53, 54, 55, 56, 57, 97, 98, 99, 100, 101, 102] } : ByteArray)[p.val]'p.isLt = dig p := by decide
  exact this ⟨p, h⟩

set_option maxRecDepth 100000 in
set_option maxHeartbeats 1600000 in
theorem hex_any (s : ByteArray) (w : World) (hs : s.size ≤ 1000) :
    Calls Tryz.prog 46 #[.string s] w fun e w' => e = .returned (.string (bs (hexL s.data.toList))) ∧ Below w.heap.size w w' := by
  obtain ⟨i0, hi0, hz0, hz1, hz2⟩ := info_parts info5
  go_enter Tryz.func46, Tryz.ntmps46
  go_wp2_with (at_make; refine wpList_make_own _ rfl _ _ 67 rfl w.heap.size 5 i0 (.int .u8 0) 1 Tryz.underlying67 hi0 hz0 hz1 .i64 .i64 _ (2 * s.size) rfl rfl (by omega) (by rw [hz2]; omega) (by unfold maxLen; omega) (Nat.le_refl _) ?_; intro w1 hown1 hgrow1)
  have hb1 : Below w.heap.size w w1 := (Below.refl _ _).grown hgrow1 (Nat.le_refl _) (by simp)
  have HO1 : Hid (Own w1 w.heap.size (.slice (some ⟨w.heap.size, 0, none⟩) 0 (2 * s.size)) []) := hown1
  clear hown1 hgrow1
  go_loopw [3, 11] (fun v i wr => ∃ (k g cap : Nat), k ≤ s.size ∧ i = .int .i64 k ∧ v = .slice (some ⟨g, 0, none⟩) (2 * k) cap ∧ Hid (Own wr w.heap.size v (hexL (s.data.toList.take k))) ∧ Below w.heap.size w wr) (fun _ i _ => s.size - (intOf i).toNat)
  case atStart => exact ⟨0, _, _, Nat.zero_le _, rfl, rfl, HO1, hb1⟩
  case round =>
    obtain ⟨k, g, cap, hk, rfl, rfl, HO, hb⟩ := hrel
    by_cases hlt : k < s.size
    · obtain ⟨c, hcd⟩ : ∃ c : UInt8, s[k] = c := ⟨_, rfl⟩
      have hcl : (c.toNat : Int) < 256 := by have := c.toNat_lt; omega
      have h0 : (0 : Int) ≤ (k : Int) := Int.natCast_nonneg _
      have hlt' : (k : Int) < (s.size : Int) := by omega
      obtain ⟨p, hp⟩ : ∃ p : Nat, (c.toNat : Int) / 16 = p := ⟨c.toNat / 16, by omega⟩
      obtain ⟨q, hq⟩ : ∃ q : Nat, bits .and .u8 (c.toNat : Int) 15 = q := ⟨c.toNat % 16, by rw [u8_and15 _ (by omega) hcl]; omega⟩
      have hp' : (p : Int) < 16 := by omega
      have hq' : (q : Int) < 16 := by rw [← hq, u8_and15 _ (by omega) hcl]; omega
      have hpn : p < 16 := by omega
      have hqn : q < 16 := by omega
      obtain ⟨d1, hd1⟩ : ∃ d : UInt8, ({ data := #[48, 49, 50, 51, 52, 53, 54, 55, 56, 57, 97, 98, 99, 100, 101, 102] } : ByteArray)[p]'hpn = d := ⟨_, rfl⟩
      obtain ⟨d2, hd2⟩ : ∃ d : UInt8, ({ data := #[48, 49, 50, 51, 52, 53, 54, 55, 56, 57, 97, 98, 99, 100, 101, 102] } : ByteArray)[q]'hqn = d := ⟨_, rfl⟩
      have HD1 : Hid (d1 = dig (c.toNat / 16)) := by
        have e : c.toNat / 16 = p := by omega
        rw [e, ← hd1]; exact digs_at p hpn
      have HD2 : Hid (d2 = dig (c.toNat % 16)) := by
        have e : c.toNat % 16 = q := by rw [u8_and15 _ (by omega) hcl] at hq; omega
        rw [e, ← hd2]; exact digs_at q hqn
      have HS : Hid (s.data.toList.take (k + 1) = s.data.toList.take k ++ [c]) := by rw [← hcd]; exact take_snoc s k hlt
      have hown : wr.ownsRow w.heap.size 5 1 (.slice (some ⟨g, 0, none⟩) (2 * k) cap) (2 * k) ((hexL (s.data.toList.take k)).map fun c => Value.int .u8 (c.toNat : Int)) := by
        have := HO.out
        unfold Own at this
        rwa [hexL_length, List.length_take, Nat.min_eq_left (by simpa using hk)] at this
      have HW : Hid (wr.ownsRow w.heap.size 5 1 (.slice (some ⟨g, 0, none⟩) (2 * k) cap) (2 * k) ((hexL (s.data.toList.take k)).map fun c => Value.int .u8 (c.toNat : Int))) := hown
      clear hown HO
      have hwz : w.heap.size ≤ wr.heap.size := hb.size
      go_wp2
      go_region_held3 (fun _ => True) (go_keep)
        ((refine step_append_lies _ (by rfl) _ _ _ (by rfl) w.heap.size 5 i0 (.int .u8 0) 1 1 Tryz.underlying67 hi0 hz0 hz1 hz2 rfl (by omega) (.slice (some ⟨g, 0, none⟩) (2 * k) cap) (2 * k) _ (by rfl) ((HW.out.alloc _).drew) ⟨wr.heap.size, 0, none⟩ 2 2 [.int .u8 (d1.toNat : Int), .int .u8 (d2.toNat : Int)] (by rfl) (by rfl) (World.news_of_block (cs := #[.int .u8 (d1.toNat : Int), .int .u8 (d2.toNat : Int)]) (t := 5) (fr := (0, 0)) (heap_alloc_new wr _)) (by simp [Value.oneCell']) (by omega) (by unfold maxLen; omega) (by omega) (by simp; omega) (wr.heap.size + 1) (by simp) ?_; intro gg cap1 w1 hown1 hgrow hat hlt1))
      all_goals
        have HN : Hid (Own w1 w.heap.size (.slice (some ⟨gg, 0, none⟩) (2 * (k + 1)) cap1) (hexL (s.data.toList.take (k + 1)))) := by
          show w1.ownsRow _ _ _ _ _ _
          rw [HS.out, hexL_append, List.length_append, hexL_length, List.length_take, Nat.min_eq_left (by simpa using hk), List.map_append]
          have e : hexL [c] = [d1, d2] := by rw [HD1.out, HD2.out]; rfl
          rw [e]
          exact hown1
        have hb1 : Below w.heap.size w w1 := by
          refine (((hb.alloc hwz _).drew)).grown hgrow (by simp; omega) (fun x hx => ?_)
          simp only [Value.ownBlock, Option.some.injEq] at hx
          rcases HW.out.2 with h | ⟨g', _, _, h, hg, _⟩
          · cases h.1
          · injection h with h _ _; injection h with h; injection h with h; omega
        clear hown1 hgrow hat hlt1
        go_wp2
        go_roundw
        case rel => exact ⟨k + 1, gg, cap1, by omega, by go_num, rfl, HN, hb1⟩
        case measure => simp [intOf]; omega
    · have hke : k = s.size := by omega
      have hO : Own wr w.heap.size (.slice (some ⟨g, 0, none⟩) (2 * k) cap) (hexL s.data.toList) := by
        have := HO.out
        rwa [List.take_of_length_le (by simp; omega)] at this
      have hback := hO.back (by rw [hexL_length]; simp; omega)
      clear hO HO HO1 hb1 hke
      go_wp2
      go_ret
      exact ⟨rfl, hb⟩
end Go.Proofs.YtlmfhbffknganaaGreatDoor

/- A text without what it ends with, by the library's own functions. -/
namespace Go.Proofs.YtlmfhbffknganaaGreatDoor
open Go.RowKit

set_option maxHeartbeats 1000000 in
theorem trim_any (s p : ByteArray) (w : World) (hs : s.size ≤ 1000000) :
    Calls Tryz.prog 81 #[.string s, .string p] w fun e w' => e = .returned (.string (bs (Lib.trimSuffix s.data.toList p.data.toList))) ∧ w' = w := by
  go_enter Tryz.func81, Tryz.ntmps81
  go_wp2
  · have h1 : p.size ≤ s.size := by assumption
    have h2 : ((s.extract (s.size - p.size) s.size).toList == p.toList) = true := by assumption
    go_ret
    refine ⟨?_, rfl⟩
    have := Lib.trimSuffix_hit s p h1 h2
    unfold bs
    rw [this]
    rfl
  · have h2 : ((s.extract (s.size - p.size) s.size).toList == p.toList) = false := by assumption
    go_ret
    refine ⟨?_, rfl⟩
    have := Lib.trimSuffix_miss s p (by rw [h2]; simp)
    unfold bs
    rw [this]
    rfl
  · have h1 : ¬ p.size ≤ s.size := by assumption
    go_ret
    refine ⟨?_, rfl⟩
    have := Lib.trimSuffix_miss s p (by simp [h1])
    unfold bs
    rw [this]
    rfl
end Go.Proofs.YtlmfhbffknganaaGreatDoor

/- The bytes of digits by the program: just what Hex writes is read, and read as what it was. -/
namespace Go.Proofs.YtlmfhbffknganaaGreatDoor
open Go.RowKit

theorem dig_mem (n : Nat) (h : n < 16) : dig n ∈ digs := by
  have : ∀ p : Fin 16, dig p ∈ digs := by decide
  exact this ⟨n, h⟩
theorem dig_inj (a b : Nat) (ha : a < 16) (hb : b < 16) (h : dig a = dig b) : a = b := by
  have : ∀ p q : Fin 16, dig p = dig q → p = q := by decide
  have := this ⟨a, ha⟩ ⟨b, hb⟩ h
  injection this
theorem hexL_mem (l : List UInt8) : ∀ c ∈ hexL l, c ∈ digs := by
  induction l with
  | nil => intro c hc; cases hc
  | cons a r ih =>
    intro c hc
    simp only [hexL, List.mem_cons] at hc
    have := a.toNat_lt
    rcases hc with rfl | rfl | hc
    · exact dig_mem _ (by omega)
    · exact dig_mem _ (by omega)
    · exact ih c hc
theorem hexL_inj : ∀ (a b : List UInt8), hexL a = hexL b → a = b
  | [], [], _ => rfl
  | [], c :: r, h => by simp [hexL] at h
  | c :: r, [], h => by simp [hexL] at h
  | c :: r, d :: t, h => by
    simp only [hexL, List.cons.injEq] at h
    have h1 := c.toNat_lt
    have h2 := d.toNat_lt
    have e1 := dig_inj _ _ (by omega) (by omega) h.1
    have e2 := dig_inj _ _ (by omega) (by omega) h.2.1
    have e3 : c = d := UInt8.toNat_inj.1 (by omega)
    rw [e3, hexL_inj r t h.2.2]

theorem or16 (a b : Nat) (ha : a < 16) (hb : b < 16) : bits .or .i64 ((a : Int) * 16) (b : Int) = (a : Int) * 16 + b := by
  have : ∀ p q : Fin 16, bits .or .i64 ((p.val : Int) * 16) (q.val : Int) = (p.val : Int) * 16 + q.val := by decide
  exact this ⟨a, ha⟩ ⟨b, hb⟩

def ixD (c : UInt8) : Int := ixOf digs c
theorem ix_digs (c : UInt8) (n : Int) (hn : n = c.toNat) (w : World) :
    Calls Tryz.prog 80 #[.string { data := #[48, 49, 50, 51, 52, 53, 54, 55, 56, 57, 97, 98, 99, 100, 101, 102] }, .int .u8 n] w fun e w' => e = .returned (.int .i64 (ixD c)) ∧ w' = w := ix_of _ c n hn w
theorem ixD_cases (c : UInt8) : (ixD c = -1 ∧ c ∉ digs) ∨ ∃ n : Nat, n < 16 ∧ ixD c = n ∧ dig n = c := ixOf_cases digs c
theorem byte_of (a b : Nat) (ha : a < 16) (hb : b < 16) : ∃ d : UInt8, bits .or .i64 ((a : Int) * 16) (b : Int) = (d.toNat : Int) ∧ dig (d.toNat / 16) = dig a ∧ dig (d.toNat % 16) = dig b := by
  refine ⟨UInt8.ofNat (a * 16 + b), ?_⟩
  have e : (UInt8.ofNat (a * 16 + b)).toNat = a * 16 + b := by simp only [UInt8.toNat_ofNat']; omega
  rw [e, show (a * 16 + b) / 16 = a by omega, show (a * 16 + b) % 16 = b by omega, or16 a b ha hb]
  exact ⟨by omega, rfl, rfl⟩
theorem hexL_not (s : List UInt8) (c : UInt8) (n : Nat) (h : n < s.length) (hc : s[n] = c) (hn : c ∉ digs) : ∀ o, hexL o ≠ s := by
  intro o ho
  subst ho
  exact hn (hexL_mem o c (hc ▸ List.getElem_mem h))

set_option maxRecDepth 100000 in
set_option maxHeartbeats 1600000 in
theorem unhex_any (s : ByteArray) (w : World) (hs : s.size ≤ 1000) :
    Calls Tryz.prog 44 #[.string s] w fun e w' => Below w.heap.size w w' ∧ ((∃ o : List UInt8, e = .returned (.tuple #[.string (bs o), .nilIface]) ∧ hexL o = s.data.toList) ∨ (e = .returned (.tuple #[.string (bs []), .iface 38 (.int .i64 3)]) ∧ ∀ o, hexL o ≠ s.data.toList)) := by
  obtain ⟨i0, hi0, hz0, hz1, hz2⟩ := info_parts info5
  by_cases hodd : s.size % 2 = 0
  · obtain ⟨m, hm⟩ : ∃ m, m * 2 = s.size := ⟨s.size / 2, by omega⟩
    have hm1 : (s.size : Int) = m * 2 := by omega
    have HM : Hid (m * 2 = s.size) := hm
    have hm5 : m ≤ 500 := by omega
    clear hm hodd
    go_enter Tryz.func44, Tryz.ntmps44
    go_wp2_with (at_make; refine wpList_make_own _ rfl _ _ 67 rfl w.heap.size 5 i0 (.int .u8 0) 1 Tryz.underlying67 hi0 hz0 hz1 .i64 .i64 _ m rfl rfl rfl (by rw [hz2]; omega) (by unfold maxLen; omega) (Nat.le_refl _) ?_; intro w1 hown1 hgrow1)
    have hb1 : Below w.heap.size w w1 := (Below.refl _ _).grown hgrow1 (Nat.le_refl _) (by simp)
    have HO1 : Hid (Own w1 w.heap.size (.slice (some ⟨w.heap.size, 0, none⟩) 0 m) []) := hown1
    clear hown1 hgrow1
    go_loopw [4, 20] (fun v i wr => ∃ (k g cap : Nat) (o : List UInt8), k ≤ m ∧ i = .int .i64 k ∧ v = .slice (some ⟨g, 0, none⟩) k cap ∧ Hid (Own wr w.heap.size v o ∧ o.length = k ∧ hexL o = s.data.toList.take (2 * k)) ∧ Below w.heap.size w wr) (fun _ i _ => m - (intOf i).toNat)
    case atStart => exact ⟨0, _, _, [], Nat.zero_le _, rfl, rfl, ⟨HO1, rfl, rfl⟩, hb1⟩
    case round =>
      obtain ⟨k, g, cap, o, hk, rfl, rfl, HO, hb⟩ := hrel
      clear HO1 hb1
      by_cases hlt : k < m
      · obtain ⟨c1, hc1⟩ : ∃ c : UInt8, s[2 * k]'(by have := HM.out; omega) = c := ⟨_, rfl⟩
        obtain ⟨c2, hc2⟩ : ∃ c : UInt8, s[2 * k + 1]'(by have := HM.out; omega) = c := ⟨_, rfl⟩
        have HS : Hid (s.data.toList.take (2 * (k + 1)) = s.data.toList.take (2 * k) ++ [c1, c2]) := by
          have e1 := take_snoc s (2 * k) (by have := HM.out; omega)
          have e2 := take_snoc s (2 * k + 1) (by have := HM.out; omega)
          show s.data.toList.take (2 * k + 1 + 1) = _
          rw [e2, e1, hc1, hc2, List.append_assoc]; rfl
        have hwz : w.heap.size ≤ wr.heap.size := hb.size
        have hz : s.data.toList.length = s.size := by simp
        have H1 : Hid (c1 ∉ digs → ∀ o, hexL o ≠ s.data.toList) := fun h => hexL_not _ c1 (2 * k) (by have := HM.out; omega) hc1 h
        have H2 : Hid (c2 ∉ digs → ∀ o, hexL o ≠ s.data.toList) := fun h => hexL_not _ c2 (2 * k + 1) (by have := HM.out; omega) hc2 h
        clear hz
        rcases ixD_cases c1 with ⟨h1, n1⟩ | ⟨x1, b1, h1, e1⟩
        · have N1 := H1.out n1
          have HN : Hid (∀ o, hexL o ≠ s.data.toList) := N1
          clear N1 n1
          go_wp2_with (go_at_call 80; first | (refine (ix_digs c1 _ rfl _).mono ?_; rintro e w' ⟨rfl, rfl⟩) | (refine (ix_digs c2 _ rfl _).mono ?_; rintro e w' ⟨rfl, rfl⟩))
          go_ret2
          exact ⟨hb, .inr ⟨rfl, HN⟩⟩
        · rcases ixD_cases c2 with ⟨h2, n2⟩ | ⟨x2, b2, h2, e2⟩
          · have N1 := H2.out n2
            have HN : Hid (∀ o, hexL o ≠ s.data.toList) := N1
            clear N1 n2
            have E1 : Hid (dig x1 = c1) := e1
            clear e1
            go_wp2_with (go_at_call 80; first | (refine (ix_digs c1 _ rfl _).mono ?_; rintro e w' ⟨rfl, rfl⟩) | (refine (ix_digs c2 _ rfl _).mono ?_; rintro e w' ⟨rfl, rfl⟩))
            go_ret2
            exact ⟨hb, .inr ⟨rfl, HN⟩⟩
          · obtain ⟨d, hd, E3, E4⟩ := byte_of x1 x2 b1 b2
            have hdl : (d.toNat : Int) < 256 := by have := d.toNat_lt; omega
            have HE : Hid (hexL (o ++ [d]) = s.data.toList.take (2 * (k + 1))) := by
              show _ = _
              rw [hexL_append, HO.out.2.2, HS.out]
              show _ ++ [dig (d.toNat / 16), dig (d.toNat % 16)] = _
              rw [E3, E4, e1, e2]
            have HW : Hid (wr.ownsRow w.heap.size 5 1 (.slice (some ⟨g, 0, none⟩) k cap) k (o.map fun c => Value.int .u8 (c.toNat : Int))) := HO.out.1.rows HO.out.2.1
            have HO2 := HO.out.1
            have HO3 : Hid (Own wr w.heap.size (.slice (some ⟨g, 0, none⟩) k cap) o) := HO2
            have HL : Hid (o.length = k) := HO.out.2.1
            clear e1 e2 E3 E4 HO2 HO H1 H2 HS
            go_wp2_with (first | (go_at_call 80; first | (refine (ix_digs c1 _ rfl _).mono ?_; rintro e w' ⟨rfl, rfl⟩) | (refine (ix_digs c2 _ rfl _).mono ?_; rintro e w' ⟨rfl, rfl⟩)) | (at_builtin; refine wpList_append_lies _ rfl (.tmp 41) (.tmp 47) 67 rfl w.heap.size 5 i0 (.int .u8 0) 1 1 Tryz.underlying67 hi0 hz0 hz1 hz2 rfl (by omega) (.slice (some ⟨g, 0, none⟩) k cap) k _ rfl (HW.out.alloc _) ⟨_, 0, none⟩ 1 1 [.int .u8 (d.toNat : Int)] rfl rfl (World.news_of_block (cs := #[.int .u8 (d.toNat : Int)]) (t := 5) (fr := (0, 0)) (heap_alloc_new _ _)) (by simp [Value.oneCell']) (by omega) (by unfold maxLen; omega) (by omega) (by simp; omega) _ rfl ?_; intro gg cap1 w2 hown1 hgrow hat hlt1; have HN : Hid (Own w2 w.heap.size (.slice (some ⟨gg, 0, none⟩) (k + 1) cap1) (o ++ [d])) := Own.more (ds := [d]) hown1 HL.out rfl; have hb2 : Below w.heap.size w w2 := HO3.out.below hb hwz hgrow; clear hown1 hgrow hat hlt1))
            go_roundw
            case rel => exact ⟨k + 1, gg, cap1, o ++ [d], by omega, by go_num, rfl, ⟨HN, by simp [HL.out], HE⟩, hb2⟩
            case measure => simp [intOf]; omega
      · have hke : k = m := by omega
        have hO := HO.out.1
        have hback := hO.back HO.out.2.1
        have HE : Hid (hexL o = s.data.toList) := by
          have := HO.out.2.2
          rwa [List.take_of_length_le (by simp; have := HM.out; omega)] at this
        clear hO HO hke
        go_wp2
        go_ret2
        exact ⟨hb, .inl ⟨o, rfl, HE⟩⟩
  · go_enter Tryz.func44, Tryz.ntmps44
    go_wp2
    go_ret2
    refine ⟨Below.refl _ _, .inr ⟨rfl, fun o ho => hodd ?_⟩⟩
    have := congrArg List.length ho
    rw [hexL_length] at this
    simp at this
    omega
end Go.Proofs.YtlmfhbffknganaaGreatDoor

/- The letters of a text by the program: three bytes, or what is left, are four letters. -/
namespace Go.Proofs.YtlmfhbffknganaaGreatDoor
open Go.RowKit

def lets : List UInt8 := [65, 66, 67, 68, 69, 70, 71, 72, 73, 74, 75, 76, 77, 78, 79, 80, 81, 82, 83, 84, 85, 86, 87, 88, 89, 90, 97, 98, 99, 100, 101, 102, 103, 104, 105, 106, 107, 108, 109, 110, 111, 112, 113, 114, 115, 116, 117, 118, 119, 120, 121, 122, 48, 49, 50, 51, 52, 53, 54, 55, 56, 57, 43, 47]
def let64 (n : Nat) : UInt8 := lets.getD n 0
/-- The number that the first k bytes of a text are, noughts behind it. -/
def val : Nat → List UInt8 → Nat
  | 0, _ => 0
  | k + 1, l => val k l * 256 + (l.getD k 0).toNat
def grp (l : List UInt8) : List UInt8 :=
  [let64 (val 3 l / 262144 % 64), let64 (val 3 l / 4096 % 64), if 2 ≤ l.length then let64 (val 3 l / 64 % 64) else 61, if 3 ≤ l.length then let64 (val 3 l % 64) else 61]
def enc : List UInt8 → List UInt8
  | [] => []
  | [a] => grp [a]
  | [a, b] => grp [a, b]
  | a :: b :: c :: r => grp [a, b, c] ++ enc r

theorem val_lt (k : Nat) (l : List UInt8) : val k l < 256 ^ k := by
  induction k with
  | zero => simp [val]
  | succ k ih =>
    have := (l.getD k 0).toNat_lt
    unfold val
    rw [Nat.pow_succ]
    omega
theorem or_join (x y i : Nat) (hx : x % 2 ^ i = 0) (hx1 : x < 2 ^ 62) (hy : y < 2 ^ i) (hi : i ≤ 62) : bits .or .i64 (x : Int) (y : Int) = ((x + y : Nat) : Int) := by
  have hp : (2 : Nat) ^ i ≤ 2 ^ 62 := Nat.pow_le_pow_right (by decide) hi
  have hy2 : y < 2 ^ 62 := by omega
  rw [bits_join .i64 62 (by decide) (fun n h0 h1 => by rw [IntKind.wrap_i64]; omega) i x y (by omega) (by exact_mod_cast hx) (by exact_mod_cast hx1) (by omega) (by exact_mod_cast hy) (by exact_mod_cast hy2)]
  simp
theorem and_mask (x i : Nat) (hx : x < 2 ^ 62) (hi : i ≤ 62) : bits .and .i64 (x : Int) (2 ^ i - 1) = ((x % 2 ^ i : Nat) : Int) := by
  rw [bits_mask .i64 62 (by decide) (fun n h0 h1 => by rw [IntKind.wrap_i64]; omega) i hi x (by omega) (by exact_mod_cast hx)]
  simp
theorem lets_at (p : Nat) (h : p < 64) : ({ data := #[65, 66, 67, 68, 69, 70, 71, 72, 73, 74, 75, 76, 77, 78, 79, 80, 81, 82, 83, 84, 85, 86, 87, 88, 89, 90, 97, 98, 99, 100, 101, 102, 103, 104, 105, 106, 107, 108, 109, 110, 111, 112, 113, 114, 115, 116, 117, 118, 119, 120, 121, 122, 48, 49, 50, 51, 52, 53, 54, 55, 56, 57, 43, 47] } : ByteArray)[p]'h = let64 p := by
  have : ∀ p : Fin 64, ({ data := #[65, 66, 67, 68, 69, 70, 71, 72, 73, 74, 75, 76, 77, 78, 79, 80, 81, 82, 83, 84, 85, 86, 87, 88, 89, 90, 97, 98, 99, 100, 101, 102, 103, 104, 105, 106, 107, 108, 109, 110, 111, 112, 113, 114, 115, 116, 117, 118, 119, 120, 121, 122, 48, 49, 50, 51, 52, 53, 54, 55, 56, 57, 43, 47] } : ByteArray)[p.val]'p.isLt = let64 p := by decide
  exact this ⟨p, h⟩

theorem grp_pad (l : List UInt8) (k : Nat) (hk : k < 4) (h1 : 1 ≤ l.length) (h : l.length < k) : (grp l).take (k + 1) = (grp l).take k ++ [61] := by
  obtain rfl | rfl | rfl | rfl : k = 0 ∨ k = 1 ∨ k = 2 ∨ k = 3 := by omega
  · omega
  · omega
  · simp [grp, show ¬ 2 ≤ l.length by omega]
  · simp [grp, show ¬ 3 ≤ l.length by omega]
theorem grp_let (l : List UInt8) (N k : Nat) (hN : val 3 l = N) (hl : N < 16777216) (hk : k < 4) (h : k ≤ l.length) : ∃ q : Nat, q < 64 ∧ bits .and .i64 (((N / 2 ^ (18 - 6 * k) : Nat) : Int)) 63 = (q : Int) ∧ (grp l).take (k + 1) = (grp l).take k ++ [let64 q] := by
  subst hN
  have hm : ∀ x : Nat, x < 2 ^ 62 → bits .and .i64 (x : Int) 63 = ((x % 64 : Nat) : Int) := fun x hx => and_mask x 6 hx (by omega)
  have hd : val 3 l / 2 ^ (18 - 6 * k) ≤ val 3 l := Nat.div_le_self _ _
  refine ⟨val 3 l / 2 ^ (18 - 6 * k) % 64, Nat.mod_lt _ (by decide), hm _ (by omega), ?_⟩
  obtain rfl | rfl | rfl | rfl : k = 0 ∨ k = 1 ∨ k = 2 ∨ k = 3 := by omega
  · simp [grp]
  · simp [grp]
  · simp [grp, show 2 ≤ l.length by omega]
  · simp [grp, show 3 ≤ l.length by omega]

set_option maxRecDepth 100000 in
set_option maxHeartbeats 800000 in
theorem group_any (part : ByteArray) (l : List UInt8) (B g n cap : Nat) (w : World) (hO : Own w B (.slice (some ⟨g, 0, none⟩) n cap) l) (hn : l.length = n) (hn2 : n ≤ 100000) (h1 : 1 ≤ part.size) (_h3 : part.size ≤ 3) (hB : B ≤ w.heap.size) :
    Calls Tryz.prog 82 #[.slice (some ⟨g, 0, none⟩) n cap, .string part] w fun e w' => ∃ g' cap', e = .returned (.slice (some ⟨g', 0, none⟩) (n + 4) cap') ∧ Own w' B (.slice (some ⟨g', 0, none⟩) (n + 4) cap') (l ++ grp part.data.toList) ∧ Below B w w' := by
  obtain ⟨i0, hi0, hz0, hz1, hz2⟩ := info_parts info5
  have HO0 : Hid (Own w B (.slice (some ⟨g, 0, none⟩) n cap) l) := hO
  clear hO
  have HLn : Hid (l.length = n ∧ n ≤ 100000) := ⟨hn, hn2⟩
  clear hn hn2
  go_enter Tryz.func82, Tryz.ntmps82
  go_wp2
  go_loop [5, 8] (fun b i => ∃ (k : Nat) (x : Int), k ≤ 3 ∧ i = .int .i64 k ∧ b = .int .i64 x ∧ Hid (x = val k part.data.toList)) (fun _ i => 3 - (intOf i).toNat)
  case atStart => exact ⟨0, 0, Nat.zero_le _, rfl, rfl, rfl⟩
  case round =>
    obtain ⟨k, x, hk, rfl, rfl, HX⟩ := hrel
    by_cases hlt : k < 3
    · have hx0 : 0 ≤ x := by have := HX.out; omega
      have hx2 : x < 65536 := by
        have e := HX.out
        have := val_lt k part.data.toList
        have h4 : (256 : Nat) ^ k ≤ 256 ^ 2 := Nat.pow_le_pow_right (by decide) (by omega)
        omega
      by_cases hp : k < part.size
      · obtain ⟨c, hc⟩ : ∃ c : UInt8, part[k] = c := ⟨_, rfl⟩
        have hcl : (c.toNat : Int) < 256 := by have := c.toNat_lt; omega
        obtain ⟨y, hor⟩ : ∃ y : Int, bits .or .i64 (x * 256) (c.toNat : Int) = y := ⟨_, rfl⟩
        have HV : Hid (y = val (k + 1) part.data.toList) := by
          show y = ((val k _ * 256 + _ : Nat) : Int)
          have e : part.data.toList.getD k 0 = c := by
            rw [← hc]; simp [List.getD, hp]; rfl
          have e2 := HX.out
          have := or_join (x.toNat * 256) c.toNat 8 (by omega) (by omega) (by omega) (by omega)
          rw [e, ← hor, show x * 256 = ((x.toNat * 256 : Nat) : Int) by omega, this]
          omega
        go_wp2
        go_round
        case rel => exact ⟨k + 1, y, by omega, by go_num, rfl, HV⟩
        case measure => simp [intOf]; omega
      · have HV : Hid (x * 256 = val (k + 1) part.data.toList) := by
          show _ = ((val k _ * 256 + _ : Nat) : Int)
          have e : part.data.toList.getD k 0 = 0 := by
            simp [List.getD, hp]
          have e2 := HX.out
          have e3 : (0 : UInt8).toNat = 0 := rfl
          rw [e, e3]
          omega
        go_wp2
        go_round
        case rel => exact ⟨k + 1, _, by omega, by go_num, rfl, HV⟩
        case measure => simp [intOf]; omega
    · have hk3 : k = 3 := by omega
      subst hk3
      obtain ⟨N, hN⟩ : ∃ N : Nat, val 3 part.data.toList = N := ⟨_, rfl⟩
      have HN : Hid (val 3 part.data.toList = N) := hN
      have hxN : x = (N : Int) := by rw [← hN]; exact HX.out
      subst hxN
      have HNl : Hid (N < 16777216) := by have := val_lt 3 part.data.toList; rw [hN] at this; exact this
      clear hN HX hk hlt
      go_wp2
      go_loopw [0, 24] (fun v i wr => ∃ (k g1 cap1 : Nat), k ≤ 4 ∧ i = .int .i64 k ∧ v = .slice (some ⟨g1, 0, none⟩) (n + k) cap1 ∧ Hid (Own wr B v (l ++ (grp part.data.toList).take k)) ∧ Below B w wr) (fun _ i _ => 4 - (intOf i).toNat)
      case atStart => exact ⟨0, g, cap, Nat.zero_le _, rfl, rfl, by rw [List.take_zero, List.append_nil]; exact HO0, Below.refl _ _⟩
      case round =>
        obtain ⟨k, g1, cap1, hk, rfl, rfl, HO, hb⟩ := hrel
        clear HO0
        have hBz : B ≤ wr.heap.size := Nat.le_trans hB hb.size
        have hlen : (l ++ (grp part.data.toList).take k).length = n + k := by
          rw [List.length_append, HLn.out.1, List.length_take]
          have : (grp part.data.toList).length = 4 := rfl
          omega
        have HW : Hid (wr.ownsRow B 5 1 (.slice (some ⟨g1, 0, none⟩) (n + k) cap1) (n + k) ((l ++ (grp part.data.toList).take k).map fun c => Value.int .u8 (c.toNat : Int))) := HO.out.rows hlen
        have HLen : Hid ((l ++ (grp part.data.toList).take k).length = n + k) := hlen
        have HM : Hid (n + k + 1 ≤ maxLen ∧ (n + k + 1) * 1 ≤ 140737488355328) := by
          have := HLn.out.2
          show _ ∧ _
          unfold maxLen
          omega
        clear hlen
        by_cases hlt : k < 4
        · by_cases hpad : (part.size : Int) < (k : Int)
          · have HG : Hid ((grp part.data.toList).take (k + 1) = (grp part.data.toList).take k ++ [61]) := grp_pad _ k hlt (by simpa using h1) (by simp; omega)
            go_wp2_with (at_builtin; refine wpList_append_lies _ rfl (.tmp 31) (.tmp 32) 67 rfl B 5 i0 (.int .u8 0) 1 1 Tryz.underlying67 hi0 hz0 hz1 hz2 rfl (by omega) (.slice (some ⟨g1, 0, none⟩) (n + k) cap1) (n + k) _ rfl (HW.out.alloc _) ⟨_, 0, none⟩ 1 1 [.int .u8 61] rfl rfl (World.news_of_block (cs := #[.int .u8 61]) (t := 5) (fr := (0, 0)) (heap_alloc_new _ _)) (by simp [Value.oneCell']) (by omega) HM.out.1 HM.out.2 (by simp; omega) _ rfl ?_; intro gg cap2 w2 hown1 hgrow hat hlt1; have HN2 : Hid (Own w2 B (.slice (some ⟨gg, 0, none⟩) (n + k + 1) cap2) (l ++ (grp part.data.toList).take (k + 1))) := (by show Own _ _ _ _; rw [HG.out, ← List.append_assoc]; exact Own.more (ds := [61]) hown1 HLen.out rfl); have hb2 : Below B w w2 := HO.out.below hb hBz hgrow; clear hown1 hgrow hat hlt1)
            go_roundw
            case rel => exact ⟨k + 1, gg, cap2, by omega, by go_num, rfl, HN2, hb2⟩
            case measure => simp [intOf]; omega
          · obtain ⟨q, hq64, hq, HG⟩ := grp_let part.data.toList N k HN.out HNl.out hlt (by simp; omega)
            obtain ⟨d, hd⟩ : ∃ d : UInt8, ({ data := #[65, 66, 67, 68, 69, 70, 71, 72, 73, 74, 75, 76, 77, 78, 79, 80, 81, 82, 83, 84, 85, 86, 87, 88, 89, 90, 97, 98, 99, 100, 101, 102, 103, 104, 105, 106, 107, 108, 109, 110, 111, 112, 113, 114, 115, 116, 117, 118, 119, 120, 121, 122, 48, 49, 50, 51, 52, 53, 54, 55, 56, 57, 43, 47] } : ByteArray)[q]'hq64 = d := ⟨_, rfl⟩
            have HG2 : Hid ((grp part.data.toList).take (k + 1) = (grp part.data.toList).take k ++ [d]) := by rw [← hd, lets_at q hq64]; exact HG
            clear HG
            have hq64' : (q : Int) < 64 := by omega
            obtain rfl | rfl | rfl | rfl : k = 0 ∨ k = 1 ∨ k = 2 ∨ k = 3 := by omega
            · have hqk : bits .and .i64 ((N : Int) / 262144) 63 = (q : Int) := by rw [← hq]; simp
              clear hq
              have HWk : Hid (wr.ownsRow B 5 1 (.slice (some ⟨g1, 0, none⟩) n cap1) n ((l ++ (grp part.data.toList).take 0).map fun c => Value.int .u8 (c.toNat : Int))) := HW
              clear HW
              have HOk : Hid (Own wr B (.slice (some ⟨g1, 0, none⟩) n cap1) (l ++ (grp part.data.toList).take 0)) := HO
              clear HO
              go_wp2_with (at_builtin; refine wpList_append_lies _ rfl (.tmp 34) (.tmp 42) 67 rfl B 5 i0 (.int .u8 0) 1 1 Tryz.underlying67 hi0 hz0 hz1 hz2 rfl (by omega) (.slice (some ⟨g1, 0, none⟩) n cap1) n _ rfl (HWk.out.alloc _) ⟨_, 0, none⟩ 1 1 [.int .u8 (d.toNat : Int)] rfl rfl (World.news_of_block (cs := #[.int .u8 (d.toNat : Int)]) (t := 5) (fr := (0, 0)) (heap_alloc_new _ _)) (by simp [Value.oneCell']) (by omega) HM.out.1 HM.out.2 (by simp; omega) _ rfl ?_; intro gg cap2 w2 hown1 hgrow hat hlt1; have HN2 : Hid (Own w2 B (.slice (some ⟨gg, 0, none⟩) (n + 1) cap2) (l ++ (grp part.data.toList).take (0 + 1))) := (by show Own _ _ _ _; rw [HG2.out, ← List.append_assoc]; exact Own.more (ds := [d]) hown1 HLen.out rfl); have hb2 : Below B w w2 := HOk.out.below hb hBz hgrow; clear hown1 hgrow hat hlt1)
              go_roundw
              case rel => exact ⟨0 + 1, gg, cap2, by omega, by go_num, rfl, HN2, hb2⟩
              case measure => simp [intOf]
            · have hqk : bits .and .i64 ((N : Int) / 4096) 63 = (q : Int) := by rw [← hq]; simp
              clear hq
              have HWk : Hid (wr.ownsRow B 5 1 (.slice (some ⟨g1, 0, none⟩) (n + 1) cap1) (n + 1) ((l ++ (grp part.data.toList).take 1).map fun c => Value.int .u8 (c.toNat : Int))) := HW
              clear HW
              have HOk : Hid (Own wr B (.slice (some ⟨g1, 0, none⟩) (n + 1) cap1) (l ++ (grp part.data.toList).take 1)) := HO
              clear HO
              go_wp2_with (at_builtin; refine wpList_append_lies _ rfl (.tmp 34) (.tmp 42) 67 rfl B 5 i0 (.int .u8 0) 1 1 Tryz.underlying67 hi0 hz0 hz1 hz2 rfl (by omega) (.slice (some ⟨g1, 0, none⟩) (n + 1) cap1) (n + 1) _ rfl (HWk.out.alloc _) ⟨_, 0, none⟩ 1 1 [.int .u8 (d.toNat : Int)] rfl rfl (World.news_of_block (cs := #[.int .u8 (d.toNat : Int)]) (t := 5) (fr := (0, 0)) (heap_alloc_new _ _)) (by simp [Value.oneCell']) (by omega) HM.out.1 HM.out.2 (by simp; omega) _ rfl ?_; intro gg cap2 w2 hown1 hgrow hat hlt1; have HN2 : Hid (Own w2 B (.slice (some ⟨gg, 0, none⟩) ((n + 1) + 1) cap2) (l ++ (grp part.data.toList).take (1 + 1))) := (by show Own _ _ _ _; rw [HG2.out, ← List.append_assoc]; exact Own.more (ds := [d]) hown1 HLen.out rfl); have hb2 : Below B w w2 := HOk.out.below hb hBz hgrow; clear hown1 hgrow hat hlt1)
              go_roundw
              case rel => exact ⟨1 + 1, gg, cap2, by omega, by go_num, rfl, HN2, hb2⟩
              case measure => simp [intOf]
            · have hqk : bits .and .i64 ((N : Int) / 64) 63 = (q : Int) := by rw [← hq]; simp
              clear hq
              have HWk : Hid (wr.ownsRow B 5 1 (.slice (some ⟨g1, 0, none⟩) (n + 2) cap1) (n + 2) ((l ++ (grp part.data.toList).take 2).map fun c => Value.int .u8 (c.toNat : Int))) := HW
              clear HW
              have HOk : Hid (Own wr B (.slice (some ⟨g1, 0, none⟩) (n + 2) cap1) (l ++ (grp part.data.toList).take 2)) := HO
              clear HO
              go_wp2_with (at_builtin; refine wpList_append_lies _ rfl (.tmp 34) (.tmp 42) 67 rfl B 5 i0 (.int .u8 0) 1 1 Tryz.underlying67 hi0 hz0 hz1 hz2 rfl (by omega) (.slice (some ⟨g1, 0, none⟩) (n + 2) cap1) (n + 2) _ rfl (HWk.out.alloc _) ⟨_, 0, none⟩ 1 1 [.int .u8 (d.toNat : Int)] rfl rfl (World.news_of_block (cs := #[.int .u8 (d.toNat : Int)]) (t := 5) (fr := (0, 0)) (heap_alloc_new _ _)) (by simp [Value.oneCell']) (by omega) HM.out.1 HM.out.2 (by simp; omega) _ rfl ?_; intro gg cap2 w2 hown1 hgrow hat hlt1; have HN2 : Hid (Own w2 B (.slice (some ⟨gg, 0, none⟩) ((n + 2) + 1) cap2) (l ++ (grp part.data.toList).take (2 + 1))) := (by show Own _ _ _ _; rw [HG2.out, ← List.append_assoc]; exact Own.more (ds := [d]) hown1 HLen.out rfl); have hb2 : Below B w w2 := HOk.out.below hb hBz hgrow; clear hown1 hgrow hat hlt1)
              go_roundw
              case rel => exact ⟨2 + 1, gg, cap2, by omega, by go_num, rfl, HN2, hb2⟩
              case measure => simp [intOf]
            · have hqk : bits .and .i64 (N : Int) 63 = (q : Int) := by rw [← hq]; simp
              clear hq
              have HWk : Hid (wr.ownsRow B 5 1 (.slice (some ⟨g1, 0, none⟩) (n + 3) cap1) (n + 3) ((l ++ (grp part.data.toList).take 3).map fun c => Value.int .u8 (c.toNat : Int))) := HW
              clear HW
              have HOk : Hid (Own wr B (.slice (some ⟨g1, 0, none⟩) (n + 3) cap1) (l ++ (grp part.data.toList).take 3)) := HO
              clear HO
              go_wp2_with (at_builtin; refine wpList_append_lies _ rfl (.tmp 34) (.tmp 42) 67 rfl B 5 i0 (.int .u8 0) 1 1 Tryz.underlying67 hi0 hz0 hz1 hz2 rfl (by omega) (.slice (some ⟨g1, 0, none⟩) (n + 3) cap1) (n + 3) _ rfl (HWk.out.alloc _) ⟨_, 0, none⟩ 1 1 [.int .u8 (d.toNat : Int)] rfl rfl (World.news_of_block (cs := #[.int .u8 (d.toNat : Int)]) (t := 5) (fr := (0, 0)) (heap_alloc_new _ _)) (by simp [Value.oneCell']) (by omega) HM.out.1 HM.out.2 (by simp; omega) _ rfl ?_; intro gg cap2 w2 hown1 hgrow hat hlt1; have HN2 : Hid (Own w2 B (.slice (some ⟨gg, 0, none⟩) ((n + 3) + 1) cap2) (l ++ (grp part.data.toList).take (3 + 1))) := (by show Own _ _ _ _; rw [HG2.out, ← List.append_assoc]; exact Own.more (ds := [d]) hown1 HLen.out rfl); have hb2 : Below B w w2 := HOk.out.below hb hBz hgrow; clear hown1 hgrow hat hlt1)
              go_roundw
              case rel => exact ⟨3 + 1, gg, cap2, by omega, by go_num, rfl, HN2, hb2⟩
              case measure => simp [intOf]
        · have hk4 : k = 4 := by omega
          subst hk4
          have HE : Hid (Own wr B (.slice (some ⟨g1, 0, none⟩) (n + 4) cap1) (l ++ grp part.data.toList)) := by
            have := HO.out
            rwa [List.take_of_length_le (show (grp part.data.toList).length ≤ 4 from Nat.le_refl 4)] at this
          clear HW HM HLen HO
          go_wp2
          go_ret
          exact ⟨g1, cap1, rfl, HE, hb⟩

theorem grp_length (l : List UInt8) : (grp l).length = 4 := rfl
theorem enc_part (l : List UInt8) (h1 : 1 ≤ l.length) (h3 : l.length ≤ 3) : enc l = grp l := by
  match l, h1, h3 with
  | [a], _, _ => rfl
  | [a, b], _, _ => rfl
  | [a, b, c], _, _ => simp [enc]
theorem enc_append (x y : List UInt8) (h : x.length % 3 = 0) : enc (x ++ y) = enc x ++ enc y := by
  match x, h with
  | [], _ => rfl
  | a :: b :: c :: r, h =>
    have := enc_append r y (by simp at h; omega)
    simp only [List.cons_append, enc, this, List.append_assoc]
theorem enc_length (l : List UInt8) : (enc l).length = (l.length + 2) / 3 * 4 := by
  match l with
  | [] => rfl
  | [a] => simp [enc, grp_length]
  | [a, b] => simp [enc, grp_length]
  | a :: b :: c :: r =>
    have := enc_length r
    simp only [enc, List.length_append, grp_length, this, List.length_cons]
    omega

set_option maxRecDepth 100000 in
set_option maxHeartbeats 800000 in
theorem base_any (s : ByteArray) (w : World) (hs : s.size ≤ 1000) :
    Calls Tryz.prog 47 #[.string s] w fun e w' => e = .returned (.string (bs (enc s.data.toList))) ∧ Below w.heap.size w w' := by
  obtain ⟨i0, hi0, hz0, hz1, hz2⟩ := info_parts info5
  obtain ⟨m, hm⟩ : ∃ m : Nat, ((s.size : Int) + 2) / 3 = m := ⟨(s.size + 2) / 3, by omega⟩
  have hm3 : m ≤ 334 := by omega
  have HM : Hid (m = (s.size + 2) / 3) := by show _ = _; omega
  go_enter Tryz.func47, Tryz.ntmps47
  go_wp2_with (at_make; refine wpList_make_own _ rfl _ _ 67 rfl w.heap.size 5 i0 (.int .u8 0) 1 Tryz.underlying67 hi0 hz0 hz1 .i64 .i64 _ (4 * m) rfl rfl (by omega) (by rw [hz2]; omega) (by unfold maxLen; omega) (Nat.le_refl _) ?_; intro w1 hown1 hgrow1)
  have hb1 : Below w.heap.size w w1 := (Below.refl _ _).grown hgrow1 (Nat.le_refl _) (by simp)
  have HO1 : Hid (Own w1 w.heap.size (.slice (some ⟨w.heap.size, 0, none⟩) 0 (4 * m)) []) := hown1
  clear hown1 hgrow1
  go_loopw [4, 14] (fun v i wr => ∃ (k g cap : Nat), k ≤ m ∧ i = .int .i64 k ∧ v = .slice (some ⟨g, 0, none⟩) (4 * k) cap ∧ Hid (Own wr w.heap.size v (enc (s.data.toList.take (3 * k)))) ∧ Below w.heap.size w wr) (fun _ i _ => m - (intOf i).toNat)
  case atStart => exact ⟨0, _, _, Nat.zero_le _, rfl, rfl, HO1, hb1⟩
  case round =>
    obtain ⟨k, g, cap, hk, rfl, rfl, HO, hb⟩ := hrel
    clear HO1 hb1
    by_cases hlt : k < m
    · have hwz : w.heap.size ≤ wr.heap.size := hb.size
      obtain ⟨part, hpart⟩ : ∃ p : ByteArray, s.extract (3 * k) (min (3 * (k : Int) + 3) (s.size : Int)).toNat = p := ⟨_, rfl⟩
      have hpl : part.data.toList = (s.data.toList.drop (3 * k)).take 3 := by
        have e := HM.out
        rw [← hpart, Lib.extract_data]
        by_cases hf : 3 * k + 3 ≤ s.size
        · rw [show (min (3 * (k : Int) + 3) (s.size : Int)).toNat - 3 * k = 3 by omega]
        · rw [List.take_of_length_le (by simp; omega), List.take_of_length_le (by simp; omega)]
      have hp1 : 1 ≤ part.size ∧ part.size ≤ 3 := by
        have e := HM.out
        rw [Lib.size_eq, hpl]
        simp
        omega
      have HT : Hid (enc (s.data.toList.take (3 * (k + 1))) = enc (s.data.toList.take (3 * k)) ++ grp part.data.toList) := by
        have e := HM.out
        show _ = _
        rw [← enc_part _ (by have := Lib.size_eq part; omega) (by have := Lib.size_eq part; omega), ← enc_append _ _ (by simp; omega), hpl, show 3 * (k + 1) = 3 * k + 3 by omega, List.take_add]
      have HL : Hid ((enc (s.data.toList.take (3 * k))).length = 4 * k) := by
        have e := HM.out
        show _ = _
        rw [enc_length, List.length_take]
        simp
        omega
      clear hpl
      have HP : Hid (1 ≤ part.size ∧ part.size ≤ 3) := hp1
      clear hp1
      go_wp2_with (go_at_call 82; refine (group_any part _ w.heap.size g (4 * k) cap _ HO.out HL.out (by omega) HP.out.1 HP.out.2 hwz).mono ?_; rintro e w' ⟨g', cap', rfl, HN, hb2⟩; have HN2 : Hid (Own w' w.heap.size (.slice (some ⟨g', 0, none⟩) (4 * k + 4) cap') (enc (s.data.toList.take (3 * (k + 1))))) := (by show Own _ _ _ _; rw [HT.out]; exact HN); clear HN)
      go_roundw
      case rel => exact ⟨k + 1, g', cap', by omega, by go_num, rfl, HN2, hb.trans hb2⟩
      case measure => simp [intOf]; omega
    · have hO : Own wr w.heap.size (.slice (some ⟨g, 0, none⟩) (4 * k) cap) (enc s.data.toList) := by
        have := HO.out
        have e := HM.out
        rwa [List.take_of_length_le (by simp; omega)] at this
      have hback := hO.back (by rw [enc_length]; have := HM.out; simp; omega)
      clear hO HO
      go_wp2
      go_ret
      exact ⟨rfl, hb⟩
end Go.Proofs.YtlmfhbffknganaaGreatDoor

/- Letters read one by one, six bits each: the plain arithmetic of what Base64 wrote being read again, and of nothing else being read. -/
namespace Go.Proofs.YtlmfhbffknganaaGreatDoor
open Go.RowKit

def ixL (c : UInt8) : Int := ixOf lets c
theorem ixL_cases (c : UInt8) : (ixL c = -1 ∧ c ∉ lets) ∨ ∃ n : Nat, n < 64 ∧ ixL c = n ∧ let64 n = c := ixOf_cases lets c
theorem let_mem (n : Nat) (h : n < 64) : let64 n ∈ lets := by
  have : ∀ p : Fin 64, let64 p ∈ lets := by decide
  exact this ⟨n, h⟩
theorem let_inj (a b : Nat) (ha : a < 64) (hb : b < 64) (h : let64 a = let64 b) : a = b := by
  have : ∀ p q : Fin 64, let64 p = let64 q → p = q := by decide +kernel
  have := this ⟨a, ha⟩ ⟨b, hb⟩ h
  injection this
theorem ixL_let (n : Nat) (h : n < 64) : ixL (let64 n) = n := by
  rcases ixL_cases (let64 n) with ⟨_, h2⟩ | ⟨m, h1, h2, h3⟩
  · exact absurd (let_mem n h) h2
  · rw [h2, let_inj m n h1 h h3]
theorem no61 : (61 : UInt8) ∉ lets := by decide

/-- One letter more: the bytes so far, how many bits are held, and which. -/
def stp (st : List UInt8 × Nat × Nat) (x : Nat) : List UInt8 × Nat × Nat :=
  if 2 ≤ st.2.1 then (st.1 ++ [UInt8.ofNat ((st.2.2 * 64 + x) / 2 ^ (st.2.1 - 2))], st.2.1 - 2, (st.2.2 * 64 + x) % 2 ^ (st.2.1 - 2)) else (st.1, st.2.1 + 6, st.2.2 * 64 + x)
def decA (st : List UInt8 × Nat × Nat) (l : List UInt8) : List UInt8 × Nat × Nat := l.foldl (fun st c => stp st (ixL c).toNat) st
theorem decA_snoc (st : List UInt8 × Nat × Nat) (l : List UInt8) (c : UInt8) : decA st (l ++ [c]) = stp (decA st l) (ixL c).toNat := by simp [decA]
theorem decA_let (st : List UInt8 × Nat × Nat) (n : Nat) (h : n < 64) (r : List UInt8) : decA st (let64 n :: r) = decA (stp st n) r := by
  show decA (stp st (ixL (let64 n)).toNat) r = _
  rw [ixL_let n h]
  simp

theorem stp0 (a : List UInt8) (x : Nat) : stp (a, 0, 0) x = (a, 6, x) := by simp [stp]
theorem stp6 (a : List UInt8) (b x : Nat) : stp (a, 6, b) x = (a ++ [UInt8.ofNat ((b * 64 + x) / 16)], 4, (b * 64 + x) % 16) := by simp [stp]
theorem stp4 (a : List UInt8) (b x : Nat) : stp (a, 4, b) x = (a ++ [UInt8.ofNat ((b * 64 + x) / 4)], 2, (b * 64 + x) % 4) := by simp [stp]
theorem stp2 (a : List UInt8) (b x : Nat) : stp (a, 2, b) x = (a ++ [UInt8.ofNat (b * 64 + x)], 0, 0) := by simp [stp]; omega

theorem quad (a r : List UInt8) (x0 x1 x2 x3 : Nat) (h0 : x0 < 64) (h1 : x1 < 64) (h2 : x2 < 64) (h3 : x3 < 64) :
    decA (a, 0, 0) (let64 x0 :: let64 x1 :: let64 x2 :: let64 x3 :: r) = decA (a ++ [UInt8.ofNat ((x0 * 64 + x1) / 16), UInt8.ofNat (((x0 * 64 + x1) % 16 * 64 + x2) / 4), UInt8.ofNat (((x0 * 64 + x1) % 16 * 64 + x2) % 4 * 64 + x3)], 0, 0) r := by
  rw [decA_let _ x0 h0, stp0, decA_let _ x1 h1, stp6, decA_let _ x2 h2, stp4, decA_let _ x3 h3, stp2]
  simp
theorem three (a r : List UInt8) (x0 x1 x2 : Nat) (h0 : x0 < 64) (h1 : x1 < 64) (h2 : x2 < 64) :
    decA (a, 0, 0) (let64 x0 :: let64 x1 :: let64 x2 :: r) = decA (a ++ [UInt8.ofNat ((x0 * 64 + x1) / 16), UInt8.ofNat (((x0 * 64 + x1) % 16 * 64 + x2) / 4)], 2, ((x0 * 64 + x1) % 16 * 64 + x2) % 4) r := by
  rw [decA_let _ x0 h0, stp0, decA_let _ x1 h1, stp6, decA_let _ x2 h2, stp4]
  simp
theorem two (a r : List UInt8) (x0 x1 : Nat) (h0 : x0 < 64) (h1 : x1 < 64) :
    decA (a, 0, 0) (let64 x0 :: let64 x1 :: r) = decA (a ++ [UInt8.ofNat ((x0 * 64 + x1) / 16)], 4, (x0 * 64 + x1) % 16) r := by
  rw [decA_let _ x0 h0, stp0, decA_let _ x1 h1, stp6]

theorem toNat_of (n : Nat) (h : n < 256) : (UInt8.ofNat n).toNat = n := by simp only [UInt8.toNat_ofNat']; omega
theorem of_toNat (n : Nat) (c : UInt8) (h : n = c.toNat) : UInt8.ofNat n = c := by subst h; simp
theorem val3 (a b c : UInt8) : val 3 [a, b, c] = a.toNat * 65536 + b.toNat * 256 + c.toNat := by simp [val]; omega
theorem val2 (a b : UInt8) : val 3 [a, b] = a.toNat * 65536 + b.toNat * 256 := by simp [val]; omega
theorem val1 (a : UInt8) : val 3 [a] = a.toNat * 65536 := by simp [val]; omega

/-- What was written is read. -/
def core : List UInt8 → List UInt8
  | [] => []
  | [a] => (grp [a]).take 2
  | [a, b] => (grp [a, b]).take 3
  | a :: b :: c :: r => grp [a, b, c] ++ core r
def pad : List UInt8 → List UInt8
  | [] => []
  | [_] => [61, 61]
  | [_, _] => [61]
  | _ :: _ :: _ :: r => pad r
theorem enc_core : ∀ l, enc l = core l ++ pad l
  | [] => rfl
  | [a] => by simp [enc, core, pad, grp]
  | [a, b] => by simp [enc, core, pad, grp]
  | a :: b :: c :: r => by simp only [enc, core, pad, enc_core r, List.append_assoc]
theorem pad_cases : ∀ l, pad l = [] ∨ pad l = [61] ∨ pad l = [61, 61]
  | [] => .inl rfl
  | [_] => .inr (.inr rfl)
  | [_, _] => .inr (.inl rfl)
  | _ :: _ :: _ :: r => pad_cases r
theorem core_mem : ∀ l, ∀ c ∈ core l, c ∈ lets
  | [], c, h => by cases h
  | [a], c, h => by
    simp [core, grp] at h
    rcases h with rfl | rfl <;> exact let_mem _ (Nat.mod_lt _ (by decide))
  | [a, b], c, h => by
    simp [core, grp] at h
    rcases h with rfl | rfl | rfl <;> exact let_mem _ (Nat.mod_lt _ (by decide))
  | a :: b :: d :: r, c, h => by
    simp only [core, List.mem_append] at h
    rcases h with h | h
    · simp [grp] at h
      rcases h with rfl | rfl | rfl | rfl <;> exact let_mem _ (Nat.mod_lt _ (by decide))
    · exact core_mem r c h
theorem dec_core : ∀ (l a : List UInt8), ∃ h, decA (a, 0, 0) (core l) = (a ++ l, h, 0)
  | [], a => ⟨0, by simp [core, decA]⟩
  | [x], a => by
    have hx := x.toNat_lt
    refine ⟨4, ?_⟩
    simp only [core, grp, List.take_succ_cons, List.take_zero, val1]
    rw [two _ _ _ _ (by omega) (by omega)]
    rw [of_toNat _ x (by omega), show (x.toNat * 65536 / 262144 % 64 * 64 + x.toNat * 65536 / 4096 % 64) % 16 = 0 by omega]
    rfl
  | [x, y], a => by
    have hx := x.toNat_lt
    have hy := y.toNat_lt
    refine ⟨2, ?_⟩
    simp only [core, grp, List.take_succ_cons, List.take_zero, val2, List.length_cons, List.length_nil]
    rw [if_pos (by omega), three _ _ _ _ _ (by omega) (by omega) (by omega)]
    rw [of_toNat _ x (by omega), of_toNat _ y (by omega)]
    have e : (((x.toNat * 65536 + y.toNat * 256) / 262144 % 64 * 64 + (x.toNat * 65536 + y.toNat * 256) / 4096 % 64) % 16 * 64 + (x.toNat * 65536 + y.toNat * 256) / 64 % 64) % 4 = 0 := by omega
    rw [e]
    rfl
  | x :: y :: z :: r, a => by
    have hx := x.toNat_lt
    have hy := y.toNat_lt
    have hz := z.toNat_lt
    obtain ⟨h, ih⟩ := dec_core r (a ++ [x, y, z])
    refine ⟨h, ?_⟩
    simp only [core, grp, val3, List.length_cons, List.length_nil]
    rw [if_pos (by omega), if_pos (by omega)]
    simp only [List.cons_append, List.nil_append]
    rw [quad _ _ _ _ _ _ (by omega) (by omega) (by omega) (by omega)]
    rw [of_toNat _ x (by omega), of_toNat _ y (by omega), of_toNat _ z (by omega), ih]
    simp

/-- What is read was written so. -/
theorem let_of (c : UInt8) (h : c ∈ lets) : ∃ n : Nat, n < 64 ∧ c = let64 n := by
  rcases ixL_cases c with ⟨_, h2⟩ | ⟨n, h1, _, h3⟩
  · exact absurd h h2
  · exact ⟨n, h1, h3.symm⟩
def padN (n : Nat) : List UInt8 := if n = 2 then [61, 61] else if n = 3 then [61] else []
theorem dec_enc : ∀ (l a : List UInt8), (∀ c ∈ l, c ∈ lets) → l.length % 4 ≠ 1 →
    ∃ o h b, decA (a, 0, 0) l = (a ++ o, h, b) ∧ (b = 0 → enc o = l ++ padN (l.length % 4))
  | [], a, _, _ => ⟨[], 0, 0, by simp [decA], fun _ => rfl⟩
  | [c], _, _, h => by simp at h
  | [c0, c1], a, hm, _ => by
    obtain ⟨x0, h0, rfl⟩ := let_of c0 (hm _ (by simp))
    obtain ⟨x1, h1, rfl⟩ := let_of c1 (hm _ (by simp))
    refine ⟨_, _, _, two _ _ _ _ h0 h1, fun hb => ?_⟩
    simp only [enc, grp, val1, List.length_cons, List.length_nil]
    rw [toNat_of _ (by omega)]
    have e1 : (x0 * 64 + x1) / 16 * 65536 / 262144 % 64 = x0 := by omega
    have e2 : (x0 * 64 + x1) / 16 * 65536 / 4096 % 64 = x1 := by omega
    rw [e1, e2]
    rfl
  | [c0, c1, c2], a, hm, _ => by
    obtain ⟨x0, h0, rfl⟩ := let_of c0 (hm _ (by simp))
    obtain ⟨x1, h1, rfl⟩ := let_of c1 (hm _ (by simp))
    obtain ⟨x2, h2, rfl⟩ := let_of c2 (hm _ (by simp))
    refine ⟨_, _, _, three _ _ _ _ _ h0 h1 h2, fun hb => ?_⟩
    simp only [enc, grp, val2, List.length_cons, List.length_nil]
    rw [toNat_of _ (by omega), toNat_of _ (by omega)]
    have e1 : ((x0 * 64 + x1) / 16 * 65536 + ((x0 * 64 + x1) % 16 * 64 + x2) / 4 * 256) / 262144 % 64 = x0 := by omega
    have e2 : ((x0 * 64 + x1) / 16 * 65536 + ((x0 * 64 + x1) % 16 * 64 + x2) / 4 * 256) / 4096 % 64 = x1 := by omega
    have e3 : ((x0 * 64 + x1) / 16 * 65536 + ((x0 * 64 + x1) % 16 * 64 + x2) / 4 * 256) / 64 % 64 = x2 := by omega
    rw [e1, e2, e3]
    rfl
  | c0 :: c1 :: c2 :: c3 :: r, a, hm, hl => by
    obtain ⟨x0, h0, rfl⟩ := let_of c0 (hm _ (by simp))
    obtain ⟨x1, h1, rfl⟩ := let_of c1 (hm _ (by simp))
    obtain ⟨x2, h2, rfl⟩ := let_of c2 (hm _ (by simp))
    obtain ⟨x3, h3, rfl⟩ := let_of c3 (hm _ (by simp))
    rw [quad _ _ _ _ _ _ h0 h1 h2 h3]
    have hr : ∀ c ∈ r, c ∈ lets := fun c hc => hm c (by simp [hc])
    obtain ⟨o, h, b, e, he⟩ := dec_enc r (a ++ [UInt8.ofNat ((x0 * 64 + x1) / 16), UInt8.ofNat (((x0 * 64 + x1) % 16 * 64 + x2) / 4), UInt8.ofNat (((x0 * 64 + x1) % 16 * 64 + x2) % 4 * 64 + x3)]) hr (by simp at hl; omega)
    refine ⟨[UInt8.ofNat ((x0 * 64 + x1) / 16), UInt8.ofNat (((x0 * 64 + x1) % 16 * 64 + x2) / 4), UInt8.ofNat (((x0 * 64 + x1) % 16 * 64 + x2) % 4 * 64 + x3)] ++ o, h, b, by rw [e, List.append_assoc], fun hb => ?_⟩
    simp only [List.cons_append, List.nil_append, enc, grp, val3, List.length_cons, List.length_nil]
    rw [toNat_of _ (by omega), toNat_of _ (by omega), toNat_of _ (by omega), if_pos (by omega), if_pos (by omega), he hb]
    have e1 : ((x0 * 64 + x1) / 16 * 65536 + ((x0 * 64 + x1) % 16 * 64 + x2) / 4 * 256 + (((x0 * 64 + x1) % 16 * 64 + x2) % 4 * 64 + x3)) / 262144 % 64 = x0 := by omega
    have e2 : ((x0 * 64 + x1) / 16 * 65536 + ((x0 * 64 + x1) % 16 * 64 + x2) / 4 * 256 + (((x0 * 64 + x1) % 16 * 64 + x2) % 4 * 64 + x3)) / 4096 % 64 = x1 := by omega
    have e3 : ((x0 * 64 + x1) / 16 * 65536 + ((x0 * 64 + x1) % 16 * 64 + x2) / 4 * 256 + (((x0 * 64 + x1) % 16 * 64 + x2) % 4 * 64 + x3)) / 64 % 64 = x2 := by omega
    have e4 : ((x0 * 64 + x1) / 16 * 65536 + ((x0 * 64 + x1) % 16 * 64 + x2) / 4 * 256 + (((x0 * 64 + x1) % 16 * 64 + x2) % 4 * 64 + x3)) % 64 = x3 := by omega
    rw [e1, e2, e3, e4, show (r.length + 1 + 1 + 1 + 1) % 4 = r.length % 4 by omega]

/-- A text without one mark at its end. -/
def trim1 (l : List UInt8) : List UInt8 := Lib.trimSuffix l [61]
theorem trim1_yes (x : List UInt8) : trim1 (x ++ [61]) = x := by
  unfold trim1 Lib.trimSuffix Lib.hasSuffix
  have : [61].isSuffixOf (x ++ [61]) = true := by rw [List.isSuffixOf_iff_suffix]; exact List.suffix_append _ _
  rw [if_pos this]
  simp
theorem trim1_cases (l : List UInt8) : (∃ x, l = x ++ [61] ∧ trim1 l = x) ∨ trim1 l = l := by
  unfold trim1 Lib.trimSuffix Lib.hasSuffix
  by_cases h : [61].isSuffixOf l = true
  · left
    obtain ⟨x, hx⟩ := List.isSuffixOf_iff_suffix.1 h
    refine ⟨x, hx.symm, ?_⟩
    rw [if_pos h, ← hx]
    simp
  · right
    rw [if_neg h]
theorem trim1_no (x : List UInt8) (h : ∀ c ∈ x, c ∈ lets) : trim1 x = x := by
  rcases trim1_cases x with ⟨y, e, _⟩ | e
  · exact absurd (h 61 (by rw [e]; simp)) no61
  · exact e
theorem trim_enc (o : List UInt8) : trim1 (trim1 (enc o)) = core o := by
  rw [enc_core]
  have hc := core_mem o
  rcases pad_cases o with e | e | e
  · rw [e, List.append_nil, trim1_no _ hc, trim1_no _ hc]
  · rw [e, trim1_yes, trim1_no _ hc]
  · rw [e, show core o ++ [61, 61] = (core o ++ [61]) ++ [61] by simp, trim1_yes, trim1_yes]
/-- What isn't read was not written. -/
theorem no_letter (s : List UInt8) (c : UInt8) (h : c ∈ trim1 (trim1 s)) (hc : c ∉ lets) : ∀ o, enc o ≠ s := by
  intro o ho
  subst ho
  rw [trim_enc] at h
  exact hc (core_mem o c h)
theorem bits_left (s : List UInt8) (x : List UInt8) (h b : Nat) (hd : decA ([], 0, 0) (trim1 (trim1 s)) = (x, h, b)) (hb : b ≠ 0) : ∀ o, enc o ≠ s := by
  intro o ho
  subst ho
  obtain ⟨h', e⟩ := dec_core o []
  rw [trim_enc, e] at hd
  injection hd with _ hd
  injection hd with _ hd
  exact hb hd.symm
theorem too_few (s : List UInt8) (h : s.length % 4 ≠ 0) : ∀ o, enc o ≠ s := by
  intro o ho
  subst ho
  rw [enc_length] at h
  omega
theorem all_read (s : List UInt8) (x : List UInt8) (h : Nat) (h4 : s.length % 4 = 0) (hl : ∀ c ∈ trim1 (trim1 s), c ∈ lets) (hd : decA ([], 0, 0) (trim1 (trim1 s)) = (x, h, 0)) : enc x = s := by
  have key : ∀ (body p : List UInt8), (∀ c ∈ body, c ∈ lets) → decA ([], 0, 0) body = (x, h, 0) → s = body ++ p → (p = [] ∨ p = [61] ∨ p = [61, 61]) → enc x = s := by
    intro body p hl hd hs hp
    have hlen : body.length % 4 ≠ 1 ∧ p = padN (body.length % 4) := by
      rw [hs, List.length_append] at h4
      rcases hp with rfl | rfl | rfl
      · simp at h4
        rw [h4]; exact ⟨by decide, rfl⟩
      · simp at h4
        have : body.length % 4 = 3 := by omega
        rw [this]; exact ⟨by decide, rfl⟩
      · simp at h4
        have : body.length % 4 = 2 := by omega
        rw [this]; exact ⟨by decide, rfl⟩
    obtain ⟨o, h', b, e, he⟩ := dec_enc body [] hl hlen.1
    rw [hd] at e
    injection e with e1 e2
    injection e2 with e2 e3
    rw [e1, List.nil_append, he e3.symm, ← hlen.2, hs]
  rcases trim1_cases s with ⟨y, e, e2⟩ | e
  · rw [e2] at hl hd
    rcases trim1_cases y with ⟨z, f, f2⟩ | f
    · rw [f2] at hl hd
      exact key z [61, 61] hl hd (by rw [e, f]; simp) (.inr (.inr rfl))
    · rw [f] at hl hd
      exact key y [61] hl hd e (.inr (.inl rfl))
  · rw [e, e] at hl hd
    exact key s [] hl hd (by simp) (.inl rfl)
theorem enc_inj (a b : List UInt8) (h : enc a = enc b) : a = b := by
  obtain ⟨h1, e1⟩ := dec_core a []
  obtain ⟨h2, e2⟩ := dec_core b []
  rw [← trim_enc, h, trim_enc, e2] at e1
  injection e1 with e1
  exact e1.symm
end Go.Proofs.YtlmfhbffknganaaGreatDoor

/- The bytes of letters by the program: just what Base64 writes is read, and read as what it was. -/
namespace Go.Proofs.YtlmfhbffknganaaGreatDoor
open Go.RowKit

theorem ix_lets (c : UInt8) (n : Int) (hn : n = c.toNat) (w : World) :
    Calls Tryz.prog 80 #[.string { data := #[65, 66, 67, 68, 69, 70, 71, 72, 73, 74, 75, 76, 77, 78, 79, 80, 81, 82, 83, 84, 85, 86, 87, 88, 89, 90, 97, 98, 99, 100, 101, 102, 103, 104, 105, 106, 107, 108, 109, 110, 111, 112, 113, 114, 115, 116, 117, 118, 119, 120, 121, 122, 48, 49, 50, 51, 52, 53, 54, 55, 56, 57, 43, 47] }, .int .u8 n] w fun e w' => e = .returned (.int .i64 (ixL c)) ∧ w' = w := ix_of _ c n hn w
theorem trim_o (s : ByteArray) (w : World) (hs : s.size ≤ 1000) :
    Calls Tryz.prog 81 #[.string s, .string { data := #[61] }] w fun e w' => ∃ t : ByteArray, e = .returned (.string t) ∧ t.size ≤ s.size ∧ Hid (t.data.toList = trim1 s.data.toList) ∧ w' = w := by
  refine (trim_any s { data := #[61] } w (by omega)).mono ?_
  rintro e w' ⟨rfl, rfl⟩
  refine ⟨_, rfl, ?_, ?_, rfl⟩
  · rw [bs_size, Lib.size_eq]
    exact Lib.trimSuffix_le _ _
  · show (bs _).data.toList = _
    rw [bs_data]
    rfl

/-- What is held between two letters: the bytes so far, the bits that are left, and how many. -/
def Inv (l o : List UInt8) (x y : Int) : Prop := ∃ h b : Nat, x = b ∧ y = h ∧ decA ([], 0, 0) l = (o, h, b) ∧ (h = 0 ∧ b = 0 ∨ h = 2 ∧ b < 4 ∨ h = 4 ∧ b < 16 ∨ h = 6 ∧ b < 64) ∧ ∀ c ∈ l, c ∈ lets
theorem Inv.start : Inv [] [] 0 0 := ⟨0, 0, rfl, rfl, rfl, .inl ⟨rfl, rfl⟩, by simp⟩
theorem Inv.cases {l o : List UInt8} {x y : Int} (h : Inv l o x y) : (x = 0 ∧ y = 0) ∨ (∃ b : Nat, x = b ∧ y = 2 ∧ b < 4) ∨ (∃ b : Nat, x = b ∧ y = 4 ∧ b < 16) ∨ ∃ b : Nat, x = b ∧ y = 6 ∧ b < 64 := by
  obtain ⟨h, b, rfl, rfl, _, hh, _⟩ := h
  rcases hh with ⟨rfl, rfl⟩ | ⟨rfl, hb⟩ | ⟨rfl, hb⟩ | ⟨rfl, hb⟩
  · exact .inl ⟨rfl, rfl⟩
  · exact .inr (.inl ⟨b, rfl, rfl, hb⟩)
  · exact .inr (.inr (.inl ⟨b, rfl, rfl, hb⟩))
  · exact .inr (.inr (.inr ⟨b, rfl, rfl, hb⟩))
theorem Inv.at {l o : List UInt8} {b h : Nat} (hi : Inv l o b h) : decA ([], 0, 0) l = (o, h, b) ∧ ∀ c ∈ l, c ∈ lets := by
  obtain ⟨h', b', e1, e2, e3, _, e4⟩ := hi
  have : b = b' := by omega
  have : h = h' := by omega
  subst_vars
  exact ⟨e3, e4⟩
theorem or_zero (l : Nat) (h : l < 64) : bits .or .i64 0 (l : Int) = l := by
  have := or_join 0 l 6 (by omega) (by omega) (by omega) (by omega)
  simpa using this
theorem or64d (b l : Nat) (hb : b < 64) (h : l < 64) : bits .or .i64 ((b : Int) * 64) (l : Int) = ((b * 64 + l : Nat) : Int) := by
  have := or_join (b * 64) l 6 (by omega) (by omega) (by omega) (by omega)
  rw [← this]; simp
theorem mem_snoc {l : List UInt8} {c : UInt8} (h : ∀ c ∈ l, c ∈ lets) (hc : c ∈ lets) : ∀ x ∈ l ++ [c], x ∈ lets := by
  intro x hx
  rcases List.mem_append.1 hx with hx | hx
  · exact h x hx
  · simp at hx; rw [hx]; exact hc
theorem Inv.step0 {l o : List UInt8} {c : UInt8} {n : Nat} (hi : Inv l o 0 0) (h1 : ixL c = n) (h2 : n < 64) (h3 : c ∈ lets) : Inv (l ++ [c]) o n 6 := by
  obtain ⟨e, hm⟩ := Inv.at (b := 0) (h := 0) hi
  refine ⟨6, n, rfl, rfl, ?_, .inr (.inr (.inr ⟨rfl, h2⟩)), mem_snoc hm h3⟩
  rw [decA_snoc, e, h1, stp0]
  rfl
theorem Inv.step2 {l o : List UInt8} {c : UInt8} {n b : Nat} (hi : Inv l o b 2) (h1 : ixL c = n) (h2 : n < 64) (h3 : c ∈ lets) (hb : b < 4 := by assumption) :
    ∃ d : UInt8, bits .or .i64 ((b : Int) * 64) (n : Int) = (d.toNat : Int) ∧ bits .and .i64 (d.toNat : Int) 0 = 0 ∧ Inv (l ++ [c]) (o ++ [d]) 0 0 := by
  obtain ⟨e, hm⟩ := Inv.at (b := b) (h := 2) hi
  refine ⟨UInt8.ofNat (b * 64 + n), ?_, ?_, 0, 0, rfl, rfl, ?_, .inl ⟨rfl, rfl⟩, mem_snoc hm h3⟩
  · rw [or64d b n (by omega) h2, toNat_of _ (by omega)]
  · have := and_mask (UInt8.ofNat (b * 64 + n)).toNat 0 (by rw [toNat_of _ (by omega)]; omega) (by omega)
    rw [Nat.pow_zero, Nat.mod_one] at this
    exact this
  · rw [decA_snoc, e, h1, stp2]
    rfl
theorem Inv.step4 {l o : List UInt8} {c : UInt8} {n b : Nat} (hi : Inv l o b 4) (h1 : ixL c = n) (h2 : n < 64) (h3 : c ∈ lets) (hb : b < 16 := by assumption) :
    ∃ (d : UInt8) (z : Int) (b2 : Nat), bits .or .i64 ((b : Int) * 64) (n : Int) = z ∧ 0 ≤ z ∧ z < 1024 ∧ z / 4 = (d.toNat : Int) ∧ bits .and .i64 z 3 = (b2 : Int) ∧ Inv (l ++ [c]) (o ++ [d]) b2 2 := by
  obtain ⟨e, hm⟩ := Inv.at (b := b) (h := 4) hi
  refine ⟨UInt8.ofNat ((b * 64 + n) / 4), ((b * 64 + n : Nat) : Int), (b * 64 + n) % 4, or64d b n (by omega) h2, by omega, by omega, ?_, and_mask _ 2 (by omega) (by omega), 2, _, rfl, rfl, ?_, .inr (.inl ⟨rfl, by omega⟩), mem_snoc hm h3⟩
  · rw [toNat_of _ (by omega)]; omega
  · rw [decA_snoc, e, h1, stp4]
    rfl
theorem Inv.step6 {l o : List UInt8} {c : UInt8} {n b : Nat} (hi : Inv l o b 6) (h1 : ixL c = n) (h2 : n < 64) (h3 : c ∈ lets) (hb : b < 64 := by assumption) :
    ∃ (d : UInt8) (z : Int) (b2 : Nat), bits .or .i64 ((b : Int) * 64) (n : Int) = z ∧ 0 ≤ z ∧ z < 4096 ∧ z / 16 = (d.toNat : Int) ∧ bits .and .i64 z 15 = (b2 : Int) ∧ Inv (l ++ [c]) (o ++ [d]) b2 4 := by
  obtain ⟨e, hm⟩ := Inv.at (b := b) (h := 6) hi
  refine ⟨UInt8.ofNat ((b * 64 + n) / 16), ((b * 64 + n : Nat) : Int), (b * 64 + n) % 16, or64d b n (by omega) h2, by omega, by omega, ?_, and_mask _ 4 (by omega) (by omega), 4, _, rfl, rfl, ?_, .inr (.inr (.inl ⟨rfl, by omega⟩)), mem_snoc hm h3⟩
  · rw [toNat_of _ (by omega)]; omega
  · rw [decA_snoc, e, h1, stp6]
    rfl
theorem Inv.good {t s o : List UInt8} {y : Int} (hi : Inv t o 0 y) (h4 : s.length % 4 = 0) (ht : t = trim1 (trim1 s)) : enc o = s := by
  obtain ⟨h, b, e1, _, e, _, hm⟩ := hi
  have : b = 0 := by omega
  subst this
  subst ht
  exact all_read s o h h4 hm e
theorem Inv.bad {t s o : List UInt8} {x y : Int} (hi : Inv t o x y) (hx : ¬ x = 0) (ht : t = trim1 (trim1 s)) : ∀ o, enc o ≠ s := by
  obtain ⟨h, b, e1, _, e, _, hm⟩ := hi
  subst ht
  exact bits_left s o h b e (by omega)

set_option maxRecDepth 100000 in
set_option maxHeartbeats 1600000 in
theorem unbase_any (s : ByteArray) (w : World) (hs : s.size ≤ 1000) :
    Calls Tryz.prog 45 #[.string s] w fun e w' => Below w.heap.size w w' ∧ ((∃ o : List UInt8, e = .returned (.tuple #[.string (bs o), .nilIface]) ∧ enc o = s.data.toList) ∨ (e = .returned (.tuple #[.string (bs []), .iface 38 (.int .i64 3)]) ∧ ∀ o, enc o ≠ s.data.toList)) := by
  obtain ⟨i0, hi0, hz0, hz1, hz2⟩ := info_parts info5
  by_cases h4 : s.size % 4 = 0
  · obtain ⟨m, hm⟩ : ∃ m, m * 4 = s.size := ⟨s.size / 4, by omega⟩
    have hm1 : (s.size : Int) = m * 4 := by omega
    have HM : Hid (m * 4 = s.size) := hm
    have hm5 : m ≤ 250 := by omega
    clear hm h4
    go_enter Tryz.func45, Tryz.ntmps45
    go_wp2_with fail
    refine (trim_o _ _ hs).mono ?_
    rintro e w' ⟨t1, rfl, hs1, HT1, hw⟩
    subst hw
    go_wp2_with fail
    refine (trim_o _ _ (by omega)).mono ?_
    rintro e w' ⟨t, rfl, hs2, HT2, hw⟩
    subst hw
    have HT : Hid (t.data.toList = trim1 (trim1 s.data.toList)) := by show _ = _; rw [HT2.out, HT1.out]
    have ht : t.size ≤ 1000 := by omega
    clear HT1 HT2 hs1 hs2
    go_wp2_with (at_make; refine wpList_make_own _ rfl _ _ 67 rfl w'.heap.size 5 i0 (.int .u8 0) 1 Tryz.underlying67 hi0 hz0 hz1 .i64 .i64 _ (m * 3) rfl rfl (by omega) (by rw [hz2]; omega) (by unfold maxLen; omega) (Nat.le_refl _) ?_; intro w1 hown1 hgrow1)
    have hb1 : Below w'.heap.size w' w1 := (Below.refl _ _).grown hgrow1 (Nat.le_refl _) (by simp)
    have HO1 : Hid (Own w1 w'.heap.size (.slice (some ⟨w'.heap.size, 0, none⟩) 0 (m * 3)) []) := hown1
    clear hown1 hgrow1
    go_loopw [5, 6, 7, 25] (fun v bt hd i wr => ∃ (k n g cap : Nat) (o : List UInt8) (x y : Int), k ≤ t.size ∧ i = .int .i64 k ∧ v = .slice (some ⟨g, 0, none⟩) n cap ∧ bt = .int .i64 x ∧ hd = .int .i64 y ∧ Hid (Own wr w'.heap.size v o ∧ o.length = n ∧ n ≤ k ∧ Inv (t.data.toList.take k) o x y) ∧ Below w'.heap.size w' wr) (fun _ _ _ i _ => t.size - (intOf i).toNat)
    case atStart => exact ⟨0, 0, _, _, [], 0, 0, Nat.zero_le _, rfl, rfl, rfl, rfl, ⟨HO1, rfl, Nat.zero_le _, Inv.start⟩, hb1⟩
    case round =>
      obtain ⟨k, n, g, cap, o, x, y, hk, rfl, rfl, rfl, rfl, HI, hb⟩ := hrel
      clear HO1 hb1
      by_cases hlt : k < t.size
      · have hwz : w'.heap.size ≤ wr.heap.size := hb.size
        have hnk : n ≤ 1000 := by have := HI.out.2.2.1; omega
        obtain ⟨c, hc⟩ : ∃ c : UInt8, t[k] = c := ⟨_, rfl⟩
        have HS : Hid (t.data.toList.take (k + 1) = t.data.toList.take k ++ [c]) := by rw [← hc]; exact take_snoc t k hlt
        have HC : Hid (c ∉ lets → ∀ o, enc o ≠ s.data.toList) := fun h => no_letter _ c (by rw [← HT.out, ← hc]; exact List.getElem_mem _) h
        rcases ixL_cases c with ⟨h1, n1⟩ | ⟨l, b1, h1, e1⟩
        · have HN : Hid (∀ o, enc o ≠ s.data.toList) := HC.out n1
          clear n1 HC
          go_wp2_with (go_at_call 80; refine (ix_lets c _ rfl _).mono ?_; rintro e w' ⟨rfl, rfl⟩)
          go_ret2
          exact ⟨hb, .inr ⟨rfl, HN⟩⟩
        · have HL : Hid (ixL c = l ∧ l < 64 ∧ c ∈ lets) := ⟨h1, b1, by rw [← e1]; exact let_mem l b1⟩
          have HW : Hid (wr.ownsRow w'.heap.size 5 1 (.slice (some ⟨g, 0, none⟩) n cap) n (o.map fun c => Value.int .u8 (c.toNat : Int))) := HI.out.1.rows HI.out.2.1
          have HO : Hid (Own wr w'.heap.size (.slice (some ⟨g, 0, none⟩) n cap) o) := HI.out.1
          have HLen : Hid (o.length = n ∧ n ≤ k) := ⟨HI.out.2.1, HI.out.2.2.1⟩
          have hin := HI.out.2.2.2
          clear HI e1 HC
          rcases hin.cases with ⟨rfl, rfl⟩ | ⟨b, rfl, rfl, hbl⟩ | ⟨b, rfl, rfl, hbl⟩ | ⟨b, rfl, rfl, hbl⟩
          · have hor : bits .or .i64 0 (l : Int) = l := or_zero l b1
            have HI2 : Hid (Inv (t.data.toList.take (k + 1)) o (l : Int) 6) := by rw [HS.out]; exact hin.step0 HL.out.1 HL.out.2.1 HL.out.2.2
            clear hin
            go_wp2_with (go_at_call 80; refine (ix_lets c _ rfl _).mono ?_; rintro e w' ⟨rfl, rfl⟩)
            go_roundw
            case rel => exact ⟨k + 1, n, g, cap, o, (l : Int), 6, by omega, by go_num, rfl, rfl, rfl, ⟨HO, HLen.out.1, by have := HLen.out.2; omega, HI2⟩, hb⟩
            case measure => simp [intOf]; omega
          · obtain ⟨d, hor, hand, HI3⟩ := hin.step2 HL.out.1 HL.out.2.1 HL.out.2.2
            have HI2 : Hid (Inv (t.data.toList.take (k + 1)) (o ++ [d]) 0 0) := by rw [HS.out]; exact HI3
            clear hin HI3
            have hdl : (d.toNat : Int) < 256 := by have := d.toNat_lt; omega
            go_wp2_with (first | (go_at_call 80; refine (ix_lets c _ rfl _).mono ?_; rintro e w' ⟨rfl, rfl⟩) | (at_builtin; refine wpList_append_lies _ rfl (.tmp 45) (.tmp 50) 67 rfl _ 5 i0 (.int .u8 0) 1 1 Tryz.underlying67 hi0 hz0 hz1 hz2 rfl (by omega) (.slice (some ⟨g, 0, none⟩) n cap) n _ rfl (HW.out.alloc _) ⟨_, 0, none⟩ 1 1 [.int .u8 (d.toNat : Int)] rfl rfl (World.news_of_block (cs := #[.int .u8 (d.toNat : Int)]) (t := 5) (fr := (0, 0)) (heap_alloc_new _ _)) (by simp [Value.oneCell']) (by omega) (by unfold maxLen; omega) (by omega) (by simp; omega) _ rfl ?_; intro gg cap1 w2 hown1 hgrow hat hlt1; have HN := (show Hid (Own w2 _ (.slice (some ⟨gg, 0, none⟩) (n + 1) cap1) (o ++ [d])) from Own.more (ds := [d]) hown1 HLen.out.1 rfl); have hb2 := HO.out.below hb hwz hgrow; clear hown1 hgrow hat hlt1))
            go_roundw
            case rel => exact ⟨k + 1, n + 1, gg, cap1, o ++ [d], 0, 0, by omega, by go_num, rfl, rfl, rfl, ⟨HN, by simp [HLen.out.1], by have := HLen.out.2; omega, HI2⟩, hb2⟩
            case measure => simp [intOf]; omega
          · obtain ⟨d, z, b2, hor, hzl0, hzl1, hshr, hand, HI3⟩ := hin.step4 HL.out.1 HL.out.2.1 HL.out.2.2
            have HI2 : Hid (Inv (t.data.toList.take (k + 1)) (o ++ [d]) (b2 : Int) 2) := by rw [HS.out]; exact HI3
            clear hin HI3
            have hdl : (d.toNat : Int) < 256 := by have := d.toNat_lt; omega
            go_wp2_with (first | (go_at_call 80; refine (ix_lets c _ rfl _).mono ?_; rintro e w' ⟨rfl, rfl⟩) | (at_builtin; refine wpList_append_lies _ rfl (.tmp 45) (.tmp 50) 67 rfl _ 5 i0 (.int .u8 0) 1 1 Tryz.underlying67 hi0 hz0 hz1 hz2 rfl (by omega) (.slice (some ⟨g, 0, none⟩) n cap) n _ rfl (HW.out.alloc _) ⟨_, 0, none⟩ 1 1 [.int .u8 (d.toNat : Int)] rfl rfl (World.news_of_block (cs := #[.int .u8 (d.toNat : Int)]) (t := 5) (fr := (0, 0)) (heap_alloc_new _ _)) (by simp [Value.oneCell']) (by omega) (by unfold maxLen; omega) (by omega) (by simp; omega) _ rfl ?_; intro gg cap1 w2 hown1 hgrow hat hlt1; have HN := (show Hid (Own w2 _ (.slice (some ⟨gg, 0, none⟩) (n + 1) cap1) (o ++ [d])) from Own.more (ds := [d]) hown1 HLen.out.1 rfl); have hb2 := HO.out.below hb hwz hgrow; clear hown1 hgrow hat hlt1))
            go_roundw
            case rel => exact ⟨k + 1, n + 1, gg, cap1, o ++ [d], (b2 : Int), 2, by omega, by go_num, rfl, rfl, rfl, ⟨HN, by simp [HLen.out.1], by have := HLen.out.2; omega, HI2⟩, hb2⟩
            case measure => simp [intOf]; omega
          · obtain ⟨d, z, b2, hor, hzl0, hzl1, hshr, hand, HI3⟩ := hin.step6 HL.out.1 HL.out.2.1 HL.out.2.2
            have HI2 : Hid (Inv (t.data.toList.take (k + 1)) (o ++ [d]) (b2 : Int) 4) := by rw [HS.out]; exact HI3
            clear hin HI3
            have hdl : (d.toNat : Int) < 256 := by have := d.toNat_lt; omega
            go_wp2_with (first | (go_at_call 80; refine (ix_lets c _ rfl _).mono ?_; rintro e w' ⟨rfl, rfl⟩) | (at_builtin; refine wpList_append_lies _ rfl (.tmp 45) (.tmp 50) 67 rfl _ 5 i0 (.int .u8 0) 1 1 Tryz.underlying67 hi0 hz0 hz1 hz2 rfl (by omega) (.slice (some ⟨g, 0, none⟩) n cap) n _ rfl (HW.out.alloc _) ⟨_, 0, none⟩ 1 1 [.int .u8 (d.toNat : Int)] rfl rfl (World.news_of_block (cs := #[.int .u8 (d.toNat : Int)]) (t := 5) (fr := (0, 0)) (heap_alloc_new _ _)) (by simp [Value.oneCell']) (by omega) (by unfold maxLen; omega) (by omega) (by simp; omega) _ rfl ?_; intro gg cap1 w2 hown1 hgrow hat hlt1; have HN := (show Hid (Own w2 _ (.slice (some ⟨gg, 0, none⟩) (n + 1) cap1) (o ++ [d])) from Own.more (ds := [d]) hown1 HLen.out.1 rfl); have hb2 := HO.out.below hb hwz hgrow; clear hown1 hgrow hat hlt1))
            go_roundw
            case rel => exact ⟨k + 1, n + 1, gg, cap1, o ++ [d], (b2 : Int), 4, by omega, by go_num, rfl, rfl, rfl, ⟨HN, by simp [HLen.out.1], by have := HLen.out.2; omega, HI2⟩, hb2⟩
            case measure => simp [intOf]; omega
      · have hke : k = t.size := by omega
        have hin := HI.out.2.2.2
        rw [List.take_of_length_le (by simp; omega)] at hin
        have hO := HI.out.1
        have hback := hO.back HI.out.2.1
        clear hO
        by_cases hx : x = 0
        · subst hx
          have HE : Hid (enc o = s.data.toList) := hin.good (by have := HM.out; simp; omega) HT.out
          clear hin HI hke
          go_wp2
          go_ret2
          exact ⟨hb, .inl ⟨o, rfl, HE⟩⟩
        · have HN : Hid (∀ o, enc o ≠ s.data.toList) := hin.bad hx HT.out
          have hx2 : (x == 0) = false := by simpa using hx
          clear hin HI hke hback
          go_wp2
          go_ret2
          exact ⟨hb, .inr ⟨rfl, HN⟩⟩
  · go_enter Tryz.func45, Tryz.ntmps45
    go_wp2
    go_ret2
    exact ⟨Below.refl _ _, .inr ⟨rfl, too_few _ (by simpa using h4)⟩⟩
end Go.Proofs.YtlmfhbffknganaaGreatDoor

/- The five facts that the laws ask for first: some well-known digits, letters and small letters. -/
namespace Go.Proofs.YtlmfhbffknganaaGreatDoor
open Go.RowKit

theorem unhex_of (s : ByteArray) (l : List UInt8) (o : ByteArray) (hl : hexL l = s.data.toList) (ho : bs l = o) (w : World) (hs : s.size ≤ 1000) :
    Calls Tryz.prog 44 #[.string s] w fun e w' => e = .returned (.tuple #[.string o, .nilIface]) ∧ Below w.heap.size w w' := by
  refine (unhex_any s w hs).mono ?_
  rintro e w' ⟨hb, ⟨o', rfl, ho'⟩ | ⟨_, hn⟩⟩
  · have := hexL_inj o' l (by rw [ho', hl])
    subst this
    rw [ho]
    exact ⟨rfl, hb⟩
  · exact absurd hl (hn l)
theorem unbase_of (s : ByteArray) (l : List UInt8) (o : ByteArray) (hl : enc l = s.data.toList) (ho : bs l = o) (w : World) (hs : s.size ≤ 1000) :
    Calls Tryz.prog 45 #[.string s] w fun e w' => e = .returned (.tuple #[.string o, .nilIface]) ∧ Below w.heap.size w w' := by
  refine (unbase_any s w hs).mono ?_
  rintro e w' ⟨hb, ⟨o', rfl, ho'⟩ | ⟨_, hn⟩⟩
  · have := enc_inj o' l (by rw [ho', hl])
    subst this
    rw [ho]
    exact ⟨rfl, hb⟩
  · exact absurd hl (hn l)

theorem coded_hex (w : World) : Calls Tryz.prog 46 #[.string { data := #[74] }] w fun e w' => e = .returned (.string { data := #[52, 97] }) ∧ Below w.heap.size w w' := hex_any { data := #[74] } w (by decide)
theorem coded_base (w : World) : Calls Tryz.prog 47 #[.string { data := #[72, 105, 33] }] w fun e w' => e = .returned (.string { data := #[83, 71, 107, 104] }) ∧ Below w.heap.size w w' := by
  refine (base_any { data := #[72, 105, 33] } w (by decide)).mono ?_
  rintro e w' ⟨rfl, hb⟩
  exact ⟨ret_str (by decide), hb⟩
theorem coded_low (w : World) : Calls Tryz.prog 17 #[.string { data := #[97, 66, 99] }] w fun e w' => e = .returned (.string { data := #[97, 98, 99] }) ∧ Below w.heap.size w w' := by
  refine (lower_any { data := #[97, 66, 99] } w (by decide)).mono ?_
  rintro e w' ⟨rfl, hb⟩
  exact ⟨ret_str (by decide), hb⟩

set_option maxHeartbeats 800000 in
theorem coded_any (w : World) : Calls Tryz.prog 16 #[] w fun e w' => e = .returned (.bool true) ∧ Below w.heap.size w w' := by
  go_enter Tryz.func16, Tryz.ntmps16
  go_wp2_with (first
    | (go_at_call 44; refine (unhex_of { data := #[52, 97, 52, 98] } [74, 75] { data := #[74, 75] } (by decide) rfl _ (by decide)).mono ?_; rintro e w1 ⟨rfl, hb1⟩)
    | (go_at_call 45; refine (unbase_of { data := #[83, 71, 107, 61] } [72, 105] { data := #[72, 105] } (by decide) rfl _ (by decide)).mono ?_; rintro e w2 ⟨rfl, hb2⟩)
    | (go_at_call 46; refine (coded_hex _).mono ?_; rintro e w3 ⟨rfl, hb3⟩)
    | (go_at_call 47; refine (coded_base _).mono ?_; rintro e w4 ⟨rfl, hb4⟩)
    | (go_at_call 17; refine (coded_low _).mono ?_; rintro e w5 ⟨rfl, hb5⟩))
  go_ret
  refine ⟨rfl, ?_⟩
  have s1 := hb1.size
  have s2 := hb2.size
  have s3 := hb3.size
  have s4 := hb4.size
  exact (((hb1.trans (hb2.mono (by omega))).trans (hb3.mono (by omega))).trans (hb4.mono (by omega))).trans (hb5.mono (by omega))
end Go.Proofs.YtlmfhbffknganaaGreatDoor
