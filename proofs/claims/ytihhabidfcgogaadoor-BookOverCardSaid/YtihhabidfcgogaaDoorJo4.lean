/- Texts of one claim, joined: each begins with what it proves. -/
import Derived.Test.YtihhabidfcgogaaDoorJo1
import Derived.Test.YtihhabidfcgogaaDoorJo3
import Derived.Lib.SlTrimSet
import Derived.Lib.Index
import Derived.Shelf.Strings.SlTrimAscii
import Derived.Shelf.Strings.Search2
import Derived.Deep.QuietTactic
import Derived.BigQuiet
import Derived.Shelf.Sort.Plain
import Derived.Shelf.Slices.CompactS
import Derived.Shelf.Slices.In.SortNone
/- Origins and paths as the document says them, over lists of bytes. -/
namespace Go.Proofs.YtihhabidfcgogaaDoor

/-- A byte of a host's label: a small letter or a digit. -/
def alnum (c : UInt8) : Bool := decide (97 ≤ c.toNat ∧ c.toNat ≤ 122) || decide (48 ≤ c.toNat ∧ c.toNat ≤ 57)
/-- Whether a byte may stand behind another one in a host (46: a point; ahead of the first byte and behind the last one a point is thought). -/
def hostStep (was c : UInt8) : Bool :=
  !((c == 46 && (was == 46 || was == 45)) || (c == 45 && was == 46) || (c != 46 && c != 45 && !alnum c))
def hostFrom (was : UInt8) : List UInt8 → Bool
  | [] => hostStep was 46
  | c :: t => hostStep was c && hostFrom c t
def hostL (l : List UInt8) : Bool := hostFrom 46 l
def rightL (host : List UInt8) (port : Int) : Bool := decide (host.length ≤ 60) && decide (1 ≤ port ∧ port ≤ 65535) && hostL host
/-- The port that is meant where none is told. -/
def portI (b : Bool) : Int := if b then 443 else 80
/-- A path up to its last slash, with it. -/
def dirL (l : List UInt8) : List UInt8 := (l.reverse.dropWhile (· != 47)).reverse
/-- A byte that may stand in a path or a query. -/
def sendB (c : UInt8) : Bool := decide (97 ≤ c.toNat ∧ c.toNat ≤ 122) || decide (65 ≤ c.toNat ∧ c.toNat ≤ 90) || decide (48 ≤ c.toNat ∧ c.toNat ≤ 57) || [45, 46, 95, 126, 33, 36, 38, 39, 40, 41, 42, 43, 44, 59, 61, 58, 64, 37, 47, 63].contains c
def sendL (l : List UInt8) : Bool := l.all sendB
/-- What stands between slashes. -/
def splitL (d : UInt8) : List UInt8 → List (List UInt8)
  | [] => [[]]
  | c :: t => if c = d then [] :: splitL d t else match splitL d t with
    | [] => [[c]]
    | p :: r => (c :: p) :: r
def joinL (d : UInt8) : List (List UInt8) → List UInt8
  | [] => []
  | [p] => p
  | p :: r => p ++ d :: joinL d r
/-- One part behind others: a point is left out, two take the one ahead away; if it is the last one an empty part stands there. -/
def cleanStep (last : Bool) (acc : List (List UInt8)) (p : List UInt8) : List (List UInt8) :=
  if p = [46] then (if last then acc ++ [[]] else acc)
  else if p = [46, 46] then (if last then acc.dropLast ++ [[]] else acc.dropLast)
  else acc ++ [p]
def cleanParts (acc : List (List UInt8)) : List (List UInt8) → List (List UInt8)
  | [] => acc
  | p :: r => cleanParts (cleanStep r.isEmpty acc p) r
def bodyL (s : List UInt8) : List UInt8 := match s with
  | 47 :: t => t
  | _ => s
def cleanL (s : List UInt8) : List UInt8 := 47 :: joinL 47 (cleanParts [] (splitL 47 (bodyL s)))
theorem clean_one : cleanL [47, 97, 47, 46, 47, 98, 47, 46, 46] = [47, 97, 47] := by decide
theorem clean_two : cleanL [46, 46, 47, 120] = [47, 120] := by decide
theorem clean_empty : cleanL [] = [47] := by decide
theorem host_one : hostL [97, 46, 116, 45, 49] = true := by decide
theorem host_two : hostL [97, 46] = false := by decide
end Go.Proofs.YtihhabidfcgogaaDoor

/- Clean is clean; a path's directory is its own: over lists of bytes. -/
namespace Go.Proofs.YtihhabidfcgogaaDoor

theorem splitL_ne (d : UInt8) : ∀ l, splitL d l ≠ []
  | [] => by simp [splitL]
  | c :: t => by
    unfold splitL
    split
    · simp
    · split <;> simp
theorem splitL_no (d : UInt8) : ∀ l, ∀ p ∈ splitL d l, d ∉ p
  | [], p, h => by
    simp [splitL] at h
    simp [h]
  | c :: t, p, h => by
    have ih := splitL_no d t
    unfold splitL at h
    split at h
    · rcases List.mem_cons.1 h with h | h
      · simp [h]
      · exact ih p h
    · rename_i hc
      split at h
      · simp at h
        subst h
        simp
        exact fun e => hc e.symm
      · rename_i q r hq
        rcases List.mem_cons.1 h with h | h
        · subst h
          have := ih q (by rw [hq]; simp)
          simp
          exact ⟨fun e => hc e.symm, this⟩
        · exact ih p (by rw [hq]; simp [h])
theorem splitL_part (d : UInt8) (p : List UInt8) (h : d ∉ p) : splitL d p = [p] := by
  induction p with
  | nil => rfl
  | cons c t ih =>
    have h1 : c ≠ d := fun e => h (by simp [e])
    have h2 : d ∉ t := fun e => h (by simp [e])
    unfold splitL
    rw [if_neg h1, ih h2]
theorem splitL_more (d : UInt8) (p t : List UInt8) (h : d ∉ p) : splitL d (p ++ d :: t) = p :: splitL d t := by
  induction p with
  | nil => simp [splitL]
  | cons c r ih =>
    have h1 : c ≠ d := fun e => h (by simp [e])
    have h2 : d ∉ r := fun e => h (by simp [e])
    rw [List.cons_append, splitL, if_neg h1, ih h2]
theorem splitL_joinL (d : UInt8) : ∀ ps : List (List UInt8), ps ≠ [] → (∀ p ∈ ps, d ∉ p) → splitL d (joinL d ps) = ps
  | [], h, _ => absurd rfl h
  | [p], _, h => splitL_part d p (h p (by simp))
  | p :: q :: r, _, h => by
    rw [joinL, splitL_more d p _ (h p (by simp)), splitL_joinL d (q :: r) (by simp) (fun x hx => h x (by simp [hx]))]
    simp
def plainP (p : List UInt8) : Prop := p ≠ [46] ∧ p ≠ [46, 46] ∧ (47 : UInt8) ∉ p
theorem cleanStep_plain (last : Bool) (acc : List (List UInt8)) (p : List UInt8) (ha : ∀ q ∈ acc, plainP q) (hp : (47 : UInt8) ∉ p) : ∀ q ∈ cleanStep last acc p, plainP q := by
  have hd : ∀ q ∈ acc.dropLast, plainP q := fun q hq => ha q ((List.dropLast_sublist acc).subset hq)
  have he : plainP [] := ⟨by simp, by simp, by simp⟩
  intro q hq
  unfold cleanStep at hq
  split at hq
  · split at hq
    · rcases List.mem_append.1 hq with h | h
      · exact ha q h
      · simp at h
        rw [h]
        exact he
    · exact ha q hq
  split at hq
  · split at hq
    · rcases List.mem_append.1 hq with h | h
      · exact hd q h
      · simp at h
        rw [h]
        exact he
    · exact hd q hq
  · rename_i h1 h2
    rcases List.mem_append.1 hq with h | h
    · exact ha q h
    · simp at h
      rw [h]
      exact ⟨h1, h2, hp⟩
theorem cleanParts_plain : ∀ (ps acc : List (List UInt8)), (∀ q ∈ acc, plainP q) → (∀ p ∈ ps, (47 : UInt8) ∉ p) → ∀ q ∈ cleanParts acc ps, plainP q
  | [], acc, ha, _, q, hq => ha q hq
  | p :: r, acc, ha, hp, q, hq => cleanParts_plain r _ (cleanStep_plain _ acc p ha (hp p (by simp))) (fun x hx => hp x (by simp [hx])) q hq
theorem cleanParts_ne : ∀ (ps acc : List (List UInt8)), ps ≠ [] → cleanParts acc ps ≠ []
  | [], _, h => absurd rfl h
  | [p], acc, _ => by
    simp only [cleanParts, List.isEmpty_nil]
    unfold cleanStep
    split
    · simp
    split
    · simp
    · simp
  | p :: q :: r, acc, _ => cleanParts_ne (q :: r) _ (by simp)
theorem cleanParts_same : ∀ (ps acc : List (List UInt8)), (∀ p ∈ ps, plainP p) → cleanParts acc ps = acc ++ ps
  | [], acc, _ => by simp [cleanParts]
  | p :: r, acc, h => by
    have hp := h p (by simp)
    rw [cleanParts, cleanStep, if_neg hp.1, if_neg hp.2.1, cleanParts_same r _ (fun x hx => h x (by simp [hx]))]
    simp
/-- The parts of a clean path. -/
theorem cleanL_parts (s : List UInt8) : ∃ ps, ps ≠ [] ∧ (∀ p ∈ ps, plainP p) ∧ cleanL s = 47 :: joinL 47 ps ∧ splitL 47 (cleanL s) = [] :: ps := by
  have h1 := cleanParts_plain (splitL 47 (bodyL s)) [] (by simp) (splitL_no 47 _)
  have h2 := cleanParts_ne (splitL 47 (bodyL s)) [] (splitL_ne 47 _)
  refine ⟨cleanParts [] (splitL 47 (bodyL s)), h2, h1, rfl, ?_⟩
  rw [cleanL, splitL, if_pos rfl, splitL_joinL 47 _ h2 (fun p hp => (h1 p hp).2.2)]
theorem cleanL_twice (s : List UInt8) : cleanL (cleanL s) = cleanL s := by
  obtain ⟨ps, hn, hp, hc, _⟩ := cleanL_parts s
  have e : cleanL (47 :: joinL 47 ps) = 47 :: joinL 47 (cleanParts [] (splitL 47 (joinL 47 ps))) := rfl
  rw [hc, e, splitL_joinL 47 ps hn (fun p h => (hp p h).2.2), cleanParts_same ps [] hp]
  simp
theorem dirL_prefix (l : List UInt8) : dirL l <+: l := by
  unfold dirL
  have h := List.dropWhile_suffix (l := l.reverse) (fun c : UInt8 => c != 47)
  have := List.reverse_prefix.2 h
  simpa using this
theorem dirL_twice (l : List UInt8) : dirL (dirL l) = dirL l := by
  unfold dirL
  rw [List.reverse_reverse]
  congr 1
  generalize l.reverse = r
  induction r with
  | nil => rfl
  | cons c t ih =>
    rw [List.dropWhile_cons]
    split
    · exact ih
    · rename_i h
      rw [List.dropWhile_cons, if_neg h]
end Go.Proofs.YtihhabidfcgogaaDoor

/- What the document says of words, texts between marks and lists, among themselves. -/
namespace Go.Proofs.YtihhabidfcgogaaDoor

theorem text_34 : textB 34 = true := by decide
theorem text_92 : textB 92 = true := by decide
theorem unq_esc (s more : List UInt8) (h : s.all textB = true) : unqL false (escL s ++ 34 :: more) = some (s, (escL s).length + 1) := by
  induction s with
  | nil => simp [escL, unqL, text_34]
  | cons c t ih =>
    rw [List.all_cons, Bool.and_eq_true] at h
    have ih := ih h.2
    rw [escL]
    split
    · rename_i hc
      simp only [List.cons_append]
      have e : unqL true (c :: (escL t ++ 34 :: more)) = some (c :: t, (escL t).length + 1 + 1) := by
        rw [unqL, ih]
        simp [h.1]
      rw [unqL, e]
      simp [text_92]
    · rename_i hc
      simp only [List.cons_append]
      rw [unqL, ih]
      have h1 : c ≠ 34 := fun e => hc (.inl e)
      have h2 : c ≠ 92 := fun e => hc (.inr e)
      simp [h.1, h1, h2]
theorem quoted_quote (s more : List UInt8) (h : s.all textB = true) : quotedL (quoteL s ++ more) = some (s, (quoteL s).length) := by
  unfold quoteL
  simp only [List.cons_append, List.append_assoc, List.nil_append]
  rw [quotedL, unq_esc s more h]
  simp
theorem unq_size : ∀ (l : List UInt8) (e : Bool) (t : List UInt8) (n : Nat), unqL e l = some (t, n) → t.length + 1 ≤ n ∧ n ≤ l.length
  | [], e, t, n, h => by simp [unqL] at h
  | c :: r, e, t, n, h => by
    rw [unqL] at h
    split at h
    · cases h
    · split at h
      · obtain ⟨⟨a, b⟩, h1, h2⟩ := Option.map_eq_some_iff.1 h
        have := unq_size r _ _ _ h1
        simp only [Prod.mk.injEq] at h2
        obtain ⟨rfl, rfl⟩ := h2
        simp
        omega
      · split at h
        · cases h
          simp
        · split at h
          · obtain ⟨⟨a, b⟩, h1, h2⟩ := Option.map_eq_some_iff.1 h
            have := unq_size r _ _ _ h1
            simp only [Prod.mk.injEq] at h2
            obtain ⟨rfl, rfl⟩ := h2
            simp
            omega
          · obtain ⟨⟨a, b⟩, h1, h2⟩ := Option.map_eq_some_iff.1 h
            have := unq_size r _ _ _ h1
            simp only [Prod.mk.injEq] at h2
            obtain ⟨rfl, rfl⟩ := h2
            simp
            omega
theorem quoted_size (l t : List UInt8) (n : Nat) (h : quotedL l = some (t, n)) : t.length + 2 ≤ n ∧ n ≤ l.length := by
  cases l with
  | nil => cases h
  | cons c r =>
    rw [quotedL] at h
    split at h
    · obtain ⟨⟨a, b⟩, h1, h2⟩ := Option.map_eq_some_iff.1 h
      have := unq_size r _ _ _ h1
      simp only [Prod.mk.injEq] at h2
      obtain ⟨rfl, rfl⟩ := h2
      simp
      omega
    · cases h
/-- A value, and what stands behind it, is read as what it is. -/
theorem value_word (s v more : List UInt8) (hm : ∀ c t, more = c :: t → tokB c = false) (h : valueO s = some v) :
    (isL s = true ∧ v = s ∧ (v ++ more).takeWhile tokB = s) ∨ (isL s = false ∧ (v ++ more).takeWhile tokB = [] ∧ quotedL (v ++ more) = some (s, v.length)) := by
  have hmore : more.takeWhile tokB = [] := by
    cases more with
    | nil => rfl
    | cons c t => rw [List.takeWhile_cons, hm c t rfl]; rfl
  unfold valueO at h
  split at h
  · rename_i hs
    cases h
    refine .inl ⟨hs, rfl, ?_⟩
    unfold isL at hs
    rw [Bool.and_eq_true] at hs
    rw [List.takeWhile_append_of_pos (by simpa [List.all_eq_true] using hs.2), hmore, List.append_nil]
  · rename_i hs
    unfold quoteO at h
    split at h
    · rename_i ht
      cases h
      refine .inr ⟨by simpa using hs, ?_, quoted_quote s more ht⟩
      unfold quoteL
      rw [List.cons_append, List.takeWhile_cons, show tokB 34 = false by decide]
      rfl
    · cases h

theorem dw_comma (f : UInt8 → Bool) (hf : f 44 = false) (p t : List UInt8) : (p ++ 44 :: t).dropWhile f = p.dropWhile f ++ 44 :: t := by
  induction p with
  | nil => simp [hf]
  | cons c r ih =>
    by_cases h : f c = true
    · simp [h, ih]
    · simp [h]
theorem tw_comma (f : UInt8 → Bool) (hf : f 44 = false) (p t : List UInt8) : (p ++ 44 :: t).takeWhile f = p.takeWhile f := by
  induction p with
  | nil => simp [hf]
  | cons c r ih =>
    by_cases h : f c = true
    · simp [h, ih]
    · simp [h]
theorem wordP_comma (p t : List UInt8) : wordP (p ++ 44 :: t) = wordP p := by
  unfold wordP
  rw [dw_comma _ blank_not_comma, tw_comma _ tok_not_comma]
theorem restP_comma (p t : List UInt8) : restP (p ++ 44 :: t) = restP p ++ 44 :: t := by
  unfold restP
  rw [dw_comma _ blank_not_comma, dw_comma _ tok_not_comma, dw_comma _ blank_not_comma]
theorem restP_suffix (p : List UInt8) : restP p <:+ p := by
  unfold restP
  exact (List.dropWhile_suffix _).trans ((List.dropWhile_suffix _).trans (List.dropWhile_suffix _))
theorem cut_at (l : List UInt8) : 44 ∈ l → ∃ p t, l = p ++ 44 :: t ∧ 44 ∉ p := by
  induction l with
  | nil => intro h; cases h
  | cons c r ih =>
    intro h
    by_cases hc : c = 44
    · exact ⟨[], r, by rw [hc]; rfl, by simp⟩
    · obtain ⟨p, t, e, hp⟩ := ih (by simpa [Ne.symm hc] using h)
      exact ⟨c :: p, t, by rw [e]; rfl, by simp [hp, Ne.symm hc]⟩
theorem split_cases (l : List UInt8) : (44 ∉ l ∧ splitL 44 l = [l]) ∨ ∃ p t, l = p ++ 44 :: t ∧ 44 ∉ p ∧ splitL 44 l = p :: splitL 44 t := by
  by_cases h : 44 ∈ l
  · obtain ⟨p, t, rfl, hp⟩ := cut_at l h
    exact .inr ⟨p, t, rfl, hp, splitL_more 44 p t hp⟩
  · exact .inl ⟨h, splitL_part 44 l h⟩
theorem list_end (k : Nat) (l : List UInt8) (h : restP l = []) : listP k (splitL 44 l) = .ok (consW (wordP l) []) := by
  rcases split_cases l with ⟨_, e⟩ | ⟨p, t, rfl, _, _⟩
  · rw [e, listP, if_pos h, listP]
    rfl
  · rw [restP_comma] at h
    simp at h
theorem list_more (k : Nat) (l t : List UInt8) (h : restP l = 44 :: t) : listP k (splitL 44 l) = (listP (k + (l.length - t.length)) (splitL 44 t)).map (consW (wordP l)) := by
  rcases split_cases l with ⟨hn, e⟩ | ⟨p, t', rfl, hn, e⟩
  · exact absurd ((restP_suffix l).mem (by rw [h]; simp)) hn
  · rw [restP_comma] at h
    cases hr : restP p with
    | nil =>
      rw [hr] at h
      simp only [List.nil_append, List.cons.injEq, true_and] at h
      subst h
      rw [e, listP, if_pos hr, wordP_comma]
      congr 2
      simp
      omega
    | cons c r =>
      rw [hr] at h
      simp only [List.cons_append, List.cons.injEq] at h
      exact absurd ((restP_suffix p).mem (by rw [hr, h.1]; simp)) hn
theorem list_bad (k : Nat) (l t : List UInt8) (c : UInt8) (h : restP l = c :: t) (hc : c ≠ 44) : listP k (splitL 44 l) = .error (k + (l.length - (restP l).length)) := by
  rcases split_cases l with ⟨hn, e⟩ | ⟨p, t', rfl, hn, e⟩
  · rw [e, listP, if_neg (by rw [h]; simp)]
  · rw [restP_comma] at h
    cases hr : restP p with
    | nil =>
      rw [hr] at h
      simp only [List.nil_append, List.cons.injEq] at h
      exact absurd h.1.symm hc
    | cons c' r =>
      rw [e, listP, if_neg (by rw [hr]; simp), restP_comma]
      congr 2
      simp
      omega
/-- All parts hold a word or nothing. -/
def okP (P : List (List UInt8)) : Prop := ∀ p ∈ P, restP p = []
def wordsP : List (List UInt8) → List (List UInt8)
  | [] => []
  | p :: r => consW (wordP p) (wordsP r)
theorem wordsP_append (a b : List (List UInt8)) : wordsP (a ++ b) = wordsP a ++ wordsP b := by
  induction a with
  | nil => rfl
  | cons p r ih =>
    rw [List.cons_append, wordsP, wordsP, ih]
    unfold consW
    split <;> rfl
theorem listP_ok (P : List (List UInt8)) : ∀ (k : Nat) (x : List (List UInt8)), listP k P = .ok x ↔ okP P ∧ x = wordsP P := by
  induction P with
  | nil =>
    intro k x
    rw [listP, wordsP]
    constructor
    · intro h
      refine ⟨fun p hp => ?_, ?_⟩
      · cases hp
      · cases h
        rfl
    · intro h
      rw [h.2]
  | cons p r ih =>
    intro k x
    rw [listP, wordsP]
    by_cases h : restP p = []
    · rw [if_pos h]
      cases e : listP (k + p.length + 1) r with
      | error n =>
        refine ⟨fun hh => (by cases hh), fun hh => ?_⟩
        have := (ih (k + p.length + 1) (wordsP r)).2 ⟨fun q hq => hh.1 q (by simp [hq]), rfl⟩
        rw [e] at this
        cases this
      | ok y =>
        have := (ih _ _).1 e
        refine ⟨fun hh => ⟨fun q hq => ?_, ?_⟩, fun hh => ?_⟩
        · rcases List.mem_cons.1 hq with rfl | hq
          · exact h
          · exact this.1 q hq
        · rw [← this.2]
          have : Except.ok (consW (wordP p) y) = Except.ok (ε := Nat) x := hh
          exact (Except.ok.inj this).symm
        · rw [hh.2, ← this.2]
          rfl
    · rw [if_neg h]
      exact ⟨fun hh => (by cases hh), fun hh => absurd (hh.1 p (by simp)) h⟩
def OkL (l : List UInt8) (x : List (List UInt8)) : Prop := okP (splitL 44 l) ∧ x = wordsP (splitL 44 l)
theorem okL_comma {a b : List UInt8} {x y : List (List UInt8)} (ha : OkL a x) (hb : OkL b y) : OkL (a ++ 44 :: b) (x ++ y) := by
  have e : splitL 44 (a ++ 44 :: b) = splitL 44 a ++ splitL 44 b := by
    clear ha hb
    induction a with
    | nil => simp [splitL]
    | cons c r ih =>
      rw [List.cons_append, splitL, splitL]
      by_cases hc : c = 44
      · rw [if_pos hc, if_pos hc, ih]
        rfl
      · rw [if_neg hc, if_neg hc, ih]
        cases e : splitL 44 r with
        | nil => exact absurd e (splitL_ne 44 r)
        | cons p q => rfl
  refine ⟨?_, ?_⟩
  · rw [e]
    intro p hp
    rcases List.mem_append.1 hp with hp | hp
    · exact ha.1 p hp
    · exact hb.1 p hp
  · rw [e, wordsP_append, ← ha.2, ← hb.2]
theorem okL_front {b : List UInt8} {y : List (List UInt8)} (c : UInt8) (hc : blankB c = true) (hb : OkL b y) : OkL (c :: b) y := by
  have hne : c ≠ 44 := by
    rintro rfl
    cases hc
  obtain ⟨p, r, e⟩ : ∃ p r, splitL 44 b = p :: r := by
    cases e : splitL 44 b with
    | nil => exact absurd e (splitL_ne 44 b)
    | cons p r => exact ⟨p, r, rfl⟩
  unfold OkL at *
  rw [splitL, if_neg hne, e]
  rw [e] at hb
  have h1 : restP (c :: p) = restP p := by
    unfold restP
    rw [List.dropWhile_cons, if_pos hc]
  have h2 : wordP (c :: p) = wordP p := by
    unfold wordP
    rw [List.dropWhile_cons, if_pos hc]
  dsimp only
  rw [wordsP, h2]
  refine ⟨fun q hq => ?_, hb.2⟩
  rcases List.mem_cons.1 hq with rfl | hq
  · rw [h1]
    exact hb.1 p (by simp)
  · exact hb.1 q (by simp [hq])
theorem dw_nil (f : UInt8 → Bool) (p : List UInt8) : p.dropWhile f = [] ↔ p.all f = true := by
  induction p with
  | nil => simp
  | cons c r ih =>
    by_cases h : f c = true
    · simp [h, ih]
    · simp [h]
theorem dw_snoc (f : UInt8 → Bool) (p : List UInt8) (c : UInt8) : (p ++ [c]).dropWhile f = if p.dropWhile f = [] then [c].dropWhile f else p.dropWhile f ++ [c] := by
  induction p with
  | nil => simp
  | cons d r ih =>
    by_cases h : f d = true
    · simp only [List.cons_append, List.dropWhile_cons, h, if_true, ih]
    · simp [h]
theorem tw_snoc (f : UInt8 → Bool) (p : List UInt8) (c : UInt8) (hc : f c = false) : (p ++ [c]).takeWhile f = p.takeWhile f := by
  induction p with
  | nil => simp [hc]
  | cons d r ih =>
    by_cases h : f d = true
    · simp [h, ih]
    · simp [h]
theorem part_back (p : List UInt8) (c : UInt8) (hc : blankB c = true) (h : restP p = []) : restP (p ++ [c]) = [] ∧ wordP (p ++ [c]) = wordP p := by
  have ht : tokB c = false := by
    unfold blankB at hc
    rcases Bool.or_eq_true _ _ ▸ hc with h | h
    · rw [eq_of_beq h]; decide
    · rw [eq_of_beq h]; decide
  have h1 : [c].dropWhile blankB = [] := by simp [hc]
  have h2 : [c].dropWhile tokB = [c] := by simp [ht]
  unfold restP wordP at *
  rw [dw_snoc blankB p c]
  by_cases h3 : p.dropWhile blankB = []
  · rw [if_pos h3, h1, h3]
    exact ⟨rfl, rfl⟩
  · rw [if_neg h3, tw_snoc _ _ _ ht, dw_snoc]
    refine ⟨?_, rfl⟩
    by_cases h4 : (p.dropWhile blankB).dropWhile tokB = []
    · rw [if_pos h4, h2, h1]
    · rw [if_neg h4, dw_snoc, if_pos h, h1]
theorem okL_back : ∀ (n : Nat) (a : List UInt8) (x : List (List UInt8)) (c : UInt8), a.length ≤ n → blankB c = true → OkL a x → OkL (a ++ [c]) x
  | n, a, x, c, hn, hc, ha => by
    have hne : c ≠ 44 := by
      rintro rfl
      cases hc
    rcases split_cases a with ⟨h, e⟩ | ⟨p, t, rfl, h, e⟩
    · unfold OkL at *
      rw [e] at ha
      rw [splitL_part 44 (a ++ [c]) (by simp [h, Ne.symm hne])]
      have := part_back a c hc (ha.1 a (by simp))
      refine ⟨fun q hq => ?_, ?_⟩
      · rw [List.mem_singleton.1 hq]
        exact this.1
      · rw [ha.2]
        simp only [wordsP, this.2]
    · cases n with
      | zero => simp at hn
      | succ n =>
        unfold OkL at ha
        rw [e] at ha
        have ht : OkL t (wordsP (splitL 44 t)) := ⟨fun q hq => ha.1 q (by simp [hq]), rfl⟩
        have := okL_back n t _ c (by simp at hn; omega) hc ht
        unfold OkL
        rw [List.append_assoc, List.cons_append, splitL_more 44 p _ h]
        refine ⟨fun q hq => ?_, ?_⟩
        · rcases List.mem_cons.1 hq with rfl | hq
          · exact ha.1 q (by simp)
          · exact this.1 q hq
        · rw [ha.2, wordsP, wordsP, ← this.2]
theorem okL_nil : OkL [] [] := by
  refine ⟨fun p hp => ?_, rfl⟩
  have : p = [] := by simpa [splitL] using hp
  rw [this]
  rfl
/-- Blank, comma, tab between two lists, once or more. -/
def gapsL : Nat → List UInt8
  | 0 => []
  | n + 1 => 32 :: 44 :: 9 :: gapsL n
theorem okL_gaps {b : List UInt8} {y : List (List UInt8)} (hb : OkL b y) : ∀ (n : Nat) (a : List UInt8) (x : List (List UInt8)), OkL a x → OkL (a ++ gapsL (n + 1) ++ b) (x ++ y)
  | 0, a, x, ha => by
    have := okL_comma (okL_back _ a x 32 (Nat.le_refl _) rfl ha) (okL_front 9 rfl hb)
    simpa [gapsL] using this
  | n + 1, a, x, ha => by
    have h0 : OkL [] [] := okL_nil
    have h1 := okL_gaps hb n [9] [] (okL_front 9 rfl h0)
    have := okL_comma (okL_back _ a x 32 (Nat.le_refl _) rfl ha) h1
    simpa [gapsL] using this
/-- Words with a comma and a blank between. -/
def joinC : List (List UInt8) → List UInt8
  | [] => []
  | [w] => w
  | w :: r => w ++ 44 :: 32 :: joinC r
theorem isL_word (w : List UInt8) (h : isL w = true) : w ≠ [] ∧ w.all tokB = true ∧ 44 ∉ w ∧ OkL w [w] := by
  unfold isL at h
  rw [Bool.and_eq_true] at h
  have h1 : w ≠ [] := by
    rintro rfl
    cases h.1
  have h2 : 44 ∉ w := by
    intro hm
    have := List.all_eq_true.1 h.2 44 hm
    cases this
  have hb : w.dropWhile blankB = w := by
    cases w with
    | nil => rfl
    | cons c t =>
      have hc := List.all_eq_true.1 h.2 c (by simp)
      have : blankB c = false := by
        unfold blankB
        rw [Bool.or_eq_false_iff]
        refine ⟨beq_eq_false_iff_ne.2 ?_, beq_eq_false_iff_ne.2 ?_⟩
        · rintro rfl
          cases hc
        · rintro rfl
          cases hc
      rw [List.dropWhile_cons, this]
      rfl
  have hd : w.dropWhile tokB = [] := (dw_nil _ _).2 h.2
  have ht : w.takeWhile tokB = w := by
    have := List.takeWhile_append_dropWhile (p := tokB) (l := w)
    rw [hd, List.append_nil] at this
    exact this
  refine ⟨h1, h.2, h2, ?_⟩
  unfold OkL
  rw [splitL_part 44 w h2]
  refine ⟨fun q hq => ?_, ?_⟩
  · rw [List.mem_singleton.1 hq]
    unfold restP
    rw [hb, hd]
    rfl
  · simp only [wordsP, wordP, hb, ht, consW]
    rw [if_neg h1]
theorem okL_join : ∀ l : List (List UInt8), (∀ w ∈ l, isL w = true) → OkL (joinC l) l
  | [], _ => okL_nil
  | [w], h => (isL_word w (h w (by simp))).2.2.2
  | w :: v :: r, h => by
    have ih := okL_join (v :: r) (fun x hx => h x (by simp [hx]))
    have hw := (isL_word w (h w (by simp))).2.2.2
    exact okL_comma hw (okL_front 32 rfl ih)
theorem words_are (P : List (List UInt8)) : ∀ w ∈ wordsP P, isL w = true := by
  induction P with
  | nil => intro w hw; cases hw
  | cons p r ih =>
    intro w hw
    rw [wordsP, consW] at hw
    split at hw
    · exact ih w hw
    · rename_i hne
      rcases List.mem_cons.1 hw with rfl | hw
      · unfold isL
        rw [Bool.and_eq_true]
        refine ⟨by simpa using hne, ?_⟩
        unfold wordP
        exact List.all_takeWhile
      · exact ih w hw
theorem okL_words {l : List UInt8} {x : List (List UInt8)} (h : OkL l x) : ∀ w ∈ x, isL w = true := by
  rw [h.2]
  exact words_are _
theorem okL_iff (l : List UInt8) (x : List (List UInt8)) : listP 0 (splitL 44 l) = .ok x ↔ OkL l x := listP_ok _ _ _
/-- One digit more; noughts ahead. -/
theorem sec_digit (s : List UInt8) (n : Nat) (c : UInt8) (hc : digB c = true) (h : secL s = some n) : secL (s ++ [c]) = some (min (10 * n + (c.toNat - 48)) 2147483648) := by
  unfold secL at *
  split at h
  · cases h
  · rename_i hn
    cases h
    rw [if_neg, secN_snoc]
    · rfl
    · rintro (h1 | h1)
      · simp at h1
      · apply hn
        right
        rw [List.all_append] at h1
        simpa [hc] using h1
theorem sec_noughts (s : List UInt8) (n k : Nat) (h : secL s = some n) : secL (List.replicate k 48 ++ s) = some n := by
  induction k with
  | zero => exact h
  | succ k ih =>
    rw [List.replicate_succ, List.cons_append]
    unfold secL at *
    split at ih
    · cases ih
    · rename_i hn
      cases ih
      rw [if_neg]
      · rfl
      · rintro (h1 | h1)
        · cases h1
        · apply hn
          right
          rw [List.all_cons] at h1
          simpa [show digB 48 = true by decide] using h1
end Go.Proofs.YtihhabidfcgogaaDoor

/- A part of a list, trimmed: what it has to do with its word and with what stands behind it. -/
namespace Go.Proofs.YtihhabidfcgogaaDoor

def trimW (p : List UInt8) : List UInt8 := ((p.dropWhile blankB).reverse.dropWhile blankB).reverse
theorem set_blank : (fun c : UInt8 => ([32, 9] : List UInt8).contains c) = blankB := by
  funext c
  unfold blankB
  simp
  rfl
/-- What stands ahead of the blanks at the end. -/
theorem trim_split (a : List UInt8) : ∃ br : List UInt8, a = (a.reverse.dropWhile blankB).reverse ++ br ∧ br.all blankB = true := by
  refine ⟨(a.reverse.takeWhile blankB).reverse, ?_, ?_⟩
  · rw [← List.reverse_append, List.takeWhile_append_dropWhile, List.reverse_reverse]
  · rw [List.all_reverse]
    exact List.all_takeWhile
theorem last_not (a : List UInt8) (h : (a.reverse.dropWhile blankB).reverse ≠ []) : ∃ (i : List UInt8) (c : UInt8), (a.reverse.dropWhile blankB).reverse = i ++ [c] ∧ blankB c = false := by
  cases e : a.reverse.dropWhile blankB with
  | nil => rw [e] at h; exact absurd rfl h
  | cons c t =>
    refine ⟨t.reverse, c, by simp, ?_⟩
    have := List.head_dropWhile_not (p := blankB) (l := a.reverse) (by rw [e]; simp)
    simp only [e, List.head_cons] at this
    simpa using this
theorem first_not (p : List UInt8) (c : UInt8) (t : List UInt8) (h : p.dropWhile blankB = c :: t) : blankB c = false := by
  have := List.head_dropWhile_not (p := blankB) (l := p) (by rw [h]; simp)
  simp only [h, List.head_cons] at this
  simpa using this
theorem dw_all (f : UInt8 → Bool) (l r : List UInt8) (h : l.all f = true) : (l ++ r).dropWhile f = r.dropWhile f := by
  induction l with
  | nil => rfl
  | cons c t ih =>
    rw [List.all_cons, Bool.and_eq_true] at h
    rw [List.cons_append, List.dropWhile_cons, if_pos h.1, ih h.2]
theorem dw_part (f : UInt8 → Bool) (l r : List UInt8) (h : l.all f = false) : (l ++ r).dropWhile f = l.dropWhile f ++ r := by
  induction l with
  | nil => simp at h
  | cons c t ih =>
    by_cases hc : f c = true
    · rw [List.all_cons, hc, Bool.true_and] at h
      rw [List.cons_append, List.dropWhile_cons, if_pos hc, ih h, List.dropWhile_cons, if_pos hc]
    · rw [List.cons_append, List.dropWhile_cons, if_neg hc, List.dropWhile_cons, if_neg hc]
      rfl
theorem rdrop_part (l r : List UInt8) (h : r.all blankB = false) : ((l ++ r).reverse.dropWhile blankB).reverse = l ++ (r.reverse.dropWhile blankB).reverse := by
  rw [List.reverse_append, dw_part blankB _ _ (by rw [List.all_reverse]; exact h), List.reverse_append, List.reverse_reverse]
theorem trimS_is (p : List UInt8) : Lib.trimS p [32, 9] = trimW p := by
  unfold Lib.trimS Lib.trimRightS Lib.trimLeftS trimW
  rw [set_blank]
  have hp : p = p.takeWhile blankB ++ p.dropWhile blankB := List.takeWhile_append_dropWhile.symm
  cases hd : p.dropWhile blankB with
  | nil =>
    have ha : p.all blankB = true := (dw_nil _ _).1 hd
    have : p.reverse.dropWhile blankB = [] := (dw_nil _ _).2 (by rw [List.all_reverse]; exact ha)
    rw [this]
    rfl
  | cons c t =>
    have hc := first_not p c t hd
    have hna : (c :: t).all blankB = false := by rw [List.all_cons, hc]; rfl
    have e1 : (p.reverse.dropWhile blankB).reverse = p.takeWhile blankB ++ ((c :: t).reverse.dropWhile blankB).reverse := by
      conv => lhs; rw [hp, hd]
      exact rdrop_part _ _ hna
    obtain ⟨br, e, hb⟩ := trim_split (c :: t)
    rw [e1, dw_all blankB _ _ List.all_takeWhile]
    cases hr : ((c :: t).reverse.dropWhile blankB).reverse with
    | nil =>
      rw [hr, List.nil_append] at e
      rw [← e, hna] at hb
      cases hb
    | cons d u =>
      rw [hr, List.cons_append, List.cons.injEq] at e
      rw [List.dropWhile_cons, ← e.1, hc]
      rfl
theorem tw_all (f : UInt8 → Bool) (l r : List UInt8) (h : l.all f = true) (hr : r.takeWhile f = []) : (l ++ r).takeWhile f = l := by
  rw [List.takeWhile_append_of_pos (by simpa [List.all_eq_true] using h), hr, List.append_nil]
theorem blank_no_tok (c : UInt8) (h : blankB c = true) : tokB c = false := by
  unfold blankB at h
  rcases Bool.or_eq_true _ _ ▸ h with h | h
  · rw [eq_of_beq h]; decide
  · rw [eq_of_beq h]; decide
theorem tok_no_blank (c : UInt8) (h : tokB c = true) : blankB c = false := by
  cases e : blankB c
  · rfl
  · rw [blank_no_tok c e] at h; cases h
theorem tw_blank (br : List UInt8) (h : br.all blankB = true) : br.takeWhile tokB = [] := by
  cases br with
  | nil => rfl
  | cons c t =>
    rw [List.all_cons, Bool.and_eq_true] at h
    rw [List.takeWhile_cons, blank_no_tok c h.1]
    rfl
theorem dw_blank_tok (br : List UInt8) (h : br.all blankB = true) : br.dropWhile tokB = br := by
  cases br with
  | nil => rfl
  | cons c t =>
    rw [List.all_cons, Bool.and_eq_true] at h
    rw [List.dropWhile_cons, blank_no_tok c h.1]
    rfl
theorem part_none (p : List UInt8) (h : trimW p = []) : restP p = [] ∧ wordP p = [] := by
  obtain ⟨br, e, hb⟩ := trim_split (p.dropWhile blankB)
  have h1 : (p.dropWhile blankB).reverse.dropWhile blankB = [] := by
    have := congrArg List.reverse h
    unfold trimW at this
    simpa using this
  rw [h1] at e
  simp only [List.reverse_nil, List.nil_append] at e
  unfold restP wordP
  cases hc : p.dropWhile blankB with
  | nil => exact ⟨rfl, rfl⟩
  | cons c t =>
    have hn := first_not p c t hc
    rw [hc] at e
    rw [← e, List.all_cons, hn] at hb
    cases hb
theorem part_word (p : List UInt8) (h : isL (trimW p) = true) : restP p = [] ∧ wordP p = trimW p := by
  obtain ⟨br, e, hb⟩ := trim_split (p.dropWhile blankB)
  have e2 : p.dropWhile blankB = trimW p ++ br := e
  unfold isL at h
  rw [Bool.and_eq_true] at h
  unfold restP wordP
  rw [e2]
  refine ⟨?_, tw_all tokB _ _ h.2 (tw_blank br hb)⟩
  rw [dw_all tokB _ _ h.2, dw_blank_tok br hb]
  exact (dw_nil _ _).2 hb
/-- How many bytes of the trimmed part are a word and the blanks behind it. -/
def badN (w : List UInt8) : Nat := if runL tokB w = 0 then 0 else runL tokB w + runL blankB (w.drop (runL tokB w))
theorem trimIndex_at (bl w br : List UInt8) (hb : bl.all blankB = true) (c : UInt8) (t : List UInt8) (hw : w = c :: t) (hc : blankB c = false) : Lib.index (bl ++ w ++ br) w = bl.length := by
  induction bl with
  | nil =>
    subst hw
    show Lib.index (c :: (t ++ br)) (c :: t) = 0
    rw [Lib.index, if_pos]
    rw [List.isPrefixOf_iff_prefix]
    exact ⟨br, rfl⟩
  | cons d r ih =>
    rw [List.all_cons, Bool.and_eq_true] at hb
    have ih := ih hb.2
    show Lib.index (d :: (r ++ w ++ br)) w = _
    rw [Lib.index, if_neg, ih, if_neg]
    · simp
    · simp
    · intro hp
      rw [hw, List.isPrefixOf_iff_prefix] at hp
      obtain ⟨z, hz⟩ := hp
      have : c = d := by
        have := congrArg List.head? hz
        simpa using this
      rw [this, hb.1] at hc
      cases hc
theorem part_bad (p : List UInt8) (h0 : trimW p ≠ []) (h : isL (trimW p) = false) : restP p ≠ [] ∧ p.length - (restP p).length = runL blankB p + badN (trimW p) ∧ Lib.index p (trimW p) = runL blankB p := by
  obtain ⟨br, e, hb⟩ := trim_split (p.dropWhile blankB)
  have e2 : p.dropWhile blankB = trimW p ++ br := e
  obtain ⟨i, cl, el, hcl⟩ := last_not (p.dropWhile blankB) h0
  have el2 : trimW p = i ++ [cl] := el
  have hnt : (trimW p).all tokB = false := by
    unfold isL at h
    cases ht : (trimW p).all tokB
    · rfl
    · rw [ht, Bool.and_true] at h
      have : (trimW p).isEmpty = true := by simpa using h
      exact absurd (List.isEmpty_iff.1 this) h0
  obtain ⟨c, t, hct⟩ : ∃ c t, trimW p = c :: t := by
    cases hh : trimW p with
    | nil => exact absurd hh h0
    | cons c t => exact ⟨c, t, rfl⟩
  have hc : blankB c = false := first_not p c (t ++ br) (by rw [e2, hct]; rfl)
  have hpl : p.length = runL blankB p + ((trimW p).length + br.length) := by
    have h1 := drop_runL blankB p
    have h2 := congrArg List.length h1
    rw [List.length_drop, e2, List.length_append] at h2
    have := runL_le blankB p
    omega
  have hdr : (trimW p).dropWhile tokB = (trimW p).drop (runL tokB (trimW p)) := (drop_runL _ _).symm
  have hlt : runL tokB (trimW p) < (trimW p).length := by
    have h1 := runL_le tokB (trimW p)
    rcases Nat.lt_or_ge (runL tokB (trimW p)) (trimW p).length with h2 | h2
    · exact h2
    · have : runL tokB (trimW p) = (trimW p).length := by omega
      rw [(runL_all _ _).1 this] at hnt
      cases hnt
  have hnb : ((trimW p).drop (runL tokB (trimW p))).all blankB = false := by
    cases hx : ((trimW p).drop (runL tokB (trimW p))).all blankB
    · rfl
    · have hm : cl ∈ (trimW p).drop (runL tokB (trimW p)) := by
        rw [el2] at hlt ⊢
        rw [List.drop_append_of_le_length (by simp at hlt; omega)]
        simp
      have := List.all_eq_true.1 hx cl hm
      rw [hcl] at this
      cases this
  have hrest : restP p = (trimW p).drop (runL tokB (trimW p) + runL blankB ((trimW p).drop (runL tokB (trimW p)))) ++ br := by
    unfold restP
    rw [e2, dw_part tokB _ _ hnt, hdr, dw_part blankB _ _ hnb, ← drop_runL, List.drop_drop]
  have hn2 : runL blankB ((trimW p).drop (runL tokB (trimW p))) < ((trimW p).drop (runL tokB (trimW p))).length := by
    have h1 := runL_le blankB ((trimW p).drop (runL tokB (trimW p)))
    rcases Nat.lt_or_ge (runL blankB ((trimW p).drop (runL tokB (trimW p)))) ((trimW p).drop (runL tokB (trimW p))).length with h2 | h2
    · exact h2
    · rw [(runL_all _ _).1 (by omega)] at hnb
      cases hnb
  rw [List.length_drop] at hn2
  have hbad : badN (trimW p) = runL tokB (trimW p) + runL blankB ((trimW p).drop (runL tokB (trimW p))) := by
    unfold badN
    split
    · rename_i hz
      rw [hz, List.drop_zero, hct]
      have : runL blankB (c :: t) = 0 := by
        unfold runL
        rw [List.takeWhile_cons, hc]
        rfl
      rw [this]
    · rfl
  refine ⟨?_, ?_, ?_⟩
  · rw [hrest]
    intro hx
    have := congrArg List.length hx
    simp at this
    omega
  · rw [hrest, List.length_append, List.length_drop, hbad]
    omega
  · have hp : p = p.takeWhile blankB ++ trimW p ++ br := by
      rw [List.append_assoc, ← e2, List.takeWhile_append_dropWhile]
    have := trimIndex_at (p.takeWhile blankB) (trimW p) br List.all_takeWhile c t hct hc
    rw [← hp] at this
    rw [this]
    rfl
theorem part_size (d : UInt8) : ∀ (l : List UInt8) (p : List UInt8), p ∈ splitL d l → p.length ≤ l.length
  | [], p, h => by
    have : p = [] := by simpa [splitL] using h
    rw [this]
    exact Nat.le_refl _
  | c :: t, p, h => by
    rw [splitL] at h
    split at h
    · rcases List.mem_cons.1 h with rfl | h
      · simp
      · have := part_size d t p h
        simp
        omega
    · cases e : splitL d t with
      | nil =>
        rw [e] at h
        have : p = [c] := by simpa using h
        rw [this]
        simp
      | cons q r =>
        rw [e] at h
        rcases List.mem_cons.1 h with rfl | h
        · have := part_size d t q (by rw [e]; simp)
          simp
          omega
        · have := part_size d t p (by rw [e]; simp [h])
          simp
          omega
theorem trim_length (p : List UInt8) : (trimW p).length ≤ p.length := by
  unfold trimW
  rw [List.length_reverse]
  refine Nat.le_trans (List.dropWhile_sublist _).length_le ?_
  rw [List.length_reverse]
  exact (List.dropWhile_sublist _).length_le
end Go.Proofs.YtihhabidfcgogaaDoor

/- The library's contracts that are leant on, laid at this program's numbers. -/
namespace Go.Proofs.YtihhabidfcgogaaDoor
open Go.Shelf Go.RowKit
def lays160_ren : Go.Shelf.Ren := ⟨fun | 160 => 63 | 232 => 78 | 231 => 77 | 227 => 79 | 234 => 81 | 233 => 80 | 236 => 83 | 235 => 82 | 228 => 92 | 271 => 95 | 151 => 94 | 197 => 93 | 120 => 102 | 152 => 101 | 260 => 100 | 137 => 61 | 119 => 104 | 224 => 98 | 225 => 97 | 217 => 75 | 266 => 90 | n => n, fun | 9 => 9 | 4 => 4 | 3 => 3 | 5 => 5 | 117 => 108 | 116 => 107 | 0 => 0 | 124 => 111 | 21 => 21 | 105 => 119 | 46 => 86 | 119 => 129 | 139 => 132 | 138 => 131 | n => n, fun | 3 => 2 | 4 => 3 | n => n⟩
theorem lays160 : Go.Proofs.Lays.n160 Tryd.prog lays160_ren := {
  mixed := by kernel_rfl
  f119 := Tryd.func104.trans (congrArg some (by kernel_rfl))
  f120 := Tryd.func102.trans (congrArg some (by kernel_rfl))
  f137 := Tryd.func61.trans (congrArg some (by kernel_rfl))
  f151 := Tryd.func94.trans (congrArg some (by kernel_rfl))
  f152 := Tryd.func101.trans (congrArg some (by kernel_rfl))
  f160 := Tryd.func63.trans (congrArg some (by kernel_rfl))
  f197 := Tryd.func93.trans (congrArg some (by kernel_rfl))
  f217 := Tryd.func75.trans (congrArg some (by kernel_rfl))
  f224 := Tryd.func98.trans (congrArg some (by kernel_rfl))
  f225 := Tryd.func97.trans (congrArg some (by kernel_rfl))
  f227 := Tryd.func79.trans (congrArg some (by kernel_rfl))
  f228 := Tryd.func92.trans (congrArg some (by kernel_rfl))
  f231 := Tryd.func77.trans (congrArg some (by kernel_rfl))
  f232 := Tryd.func78.trans (congrArg some (by kernel_rfl))
  f233 := Tryd.func80.trans (congrArg some (by kernel_rfl))
  f234 := Tryd.func81.trans (congrArg some (by kernel_rfl))
  f235 := Tryd.func82.trans (congrArg some (by kernel_rfl))
  f236 := Tryd.func83.trans (congrArg some (by kernel_rfl))
  f260 := Tryd.func100.trans (congrArg some (by kernel_rfl))
  f266 := Tryd.func90.trans (congrArg some (by kernel_rfl))
  f271 := Tryd.func95.trans (congrArg some (by kernel_rfl))
  t0 := Tryd.underlying0
  a0 := Tryd.isAgg0
  z0 := Tryd.sizeOf0
  v0 := Tryd.zeroValue0
  t3 := Tryd.underlying3
  a3 := Tryd.isAgg3
  z3 := Tryd.sizeOf3
  v3 := Tryd.zeroValue3
  t4 := Tryd.underlying4
  a4 := Tryd.isAgg4
  z4 := Tryd.sizeOf4
  v4 := Tryd.zeroValue4
  t5 := Tryd.underlying5
  a5 := Tryd.isAgg5
  z5 := Tryd.sizeOf5
  v5 := Tryd.zeroValue5
  t9 := Tryd.underlying9
  a9 := Tryd.isAgg9
  z9 := Tryd.sizeOf9
  v9 := Tryd.zeroValue9
  t21 := Tryd.underlying21
  a21 := Tryd.isAgg21
  z21 := Tryd.sizeOf21
  v21 := Tryd.zeroValue21
  t46 := Tryd.underlying86
  a46 := Tryd.isAgg86
  z46 := Tryd.sizeOf86
  v46 := Tryd.zeroValue86
  t105 := Tryd.underlying119
  a105 := Tryd.isAgg119
  z105 := Tryd.sizeOf119
  v105 := Tryd.zeroValue119
  t116 := Tryd.underlying107
  a116 := Tryd.isAgg107
  z116 := Tryd.sizeOf107
  t117 := Tryd.underlying108
  a117 := Tryd.isAgg108
  z117 := Tryd.sizeOf108
  v117 := Tryd.zeroValue108
  t119 := Tryd.underlying129
  a119 := Tryd.isAgg129
  z119 := Tryd.sizeOf129
  t124 := Tryd.underlying111
  a124 := Tryd.isAgg111
  z124 := Tryd.sizeOf111
  v124 := Tryd.zeroValue111
  t138 := Tryd.underlying131
  a138 := Tryd.isAgg131
  z138 := Tryd.sizeOf131
  v138 := Tryd.zeroValue131
  t139 := Tryd.underlying132
  a139 := Tryd.isAgg132
  z139 := Tryd.sizeOf132
  v139 := Tryd.zeroValue132
  g3 := by kernel_rfl
  g4 := by kernel_rfl }
end Go.Proofs.YtihhabidfcgogaaDoor

/- A text without the blanks about it, by the library. -/
namespace Go.Proofs.YtihhabidfcgogaaDoor
open Go.RowKit Go.Shelf

theorem trimBoth_any (p : ByteArray) (hp : p.size ≤ 20000) (w : World) :
    Calls Tryd.prog 63 #[.string p, .string ⟨#[32, 9]⟩] w fun e w' => ∃ t : ByteArray, e = .returned (.string t) ∧ Hid (t.data.toList = trimW p.data.toList) ∧ t.size ≤ p.size ∧ Below w.heap.size w w' := by
  refine (Any.strings_Trim_laid lays160 (by kernel_rfl) p ⟨#[32, 9]⟩ w (by omega) (by decide) (ascii_of_all (by decide))).mono ?_
  rintro e w' ⟨rfl, hb⟩
  have e1 : (⟨(Lib.trimS p.data.toList (⟨#[32, 9]⟩ : ByteArray).data.toList).toArray⟩ : ByteArray) = bs (trimW p.data.toList) := by
    show bs (Lib.trimS p.data.toList [32, 9]) = _
    rw [trimS_is]
  refine ⟨bs (trimW p.data.toList), by rw [e1], bs_data _, ?_, hb⟩
  rw [bs_size, ← (show p.data.toList.length = p.size from Array.length_toList)]
  exact trim_length _
end Go.Proofs.YtihhabidfcgogaaDoor

/- The library's contracts that are leant on, laid at this program's numbers. -/
namespace Go.Proofs.YtihhabidfcgogaaDoor
open Go.Shelf Go.RowKit
def lays219_ren : Go.Shelf.Ren := ⟨fun | 219 => 91 | 217 => 75 | 225 => 97 | 224 => 98 | 267 => 99 | 266 => 90 | 314 => 103 | n => n, fun | 9 => 9 | 3 => 3 | 4 => 4 | 5 => 5 | 46 => 86 | 146 => 127 | 51 => 102 | n => n, fun | 1 => 1 | n => n⟩
theorem lays219 : Go.Proofs.Lays.n219 Tryd.prog lays219_ren := {
  mixed := by kernel_rfl
  f217 := Tryd.func75.trans (congrArg some (by kernel_rfl))
  f219 := Tryd.func91.trans (congrArg some (by kernel_rfl))
  f224 := Tryd.func98.trans (congrArg some (by kernel_rfl))
  f225 := Tryd.func97.trans (congrArg some (by kernel_rfl))
  f266 := Tryd.func90.trans (congrArg some (by kernel_rfl))
  f267 := Tryd.func99.trans (congrArg some (by kernel_rfl))
  f314 := Tryd.func103.trans (congrArg some (by kernel_rfl))
  t3 := Tryd.underlying3
  a3 := Tryd.isAgg3
  z3 := Tryd.sizeOf3
  v3 := Tryd.zeroValue3
  t4 := Tryd.underlying4
  a4 := Tryd.isAgg4
  z4 := Tryd.sizeOf4
  v4 := Tryd.zeroValue4
  t5 := Tryd.underlying5
  a5 := Tryd.isAgg5
  z5 := Tryd.sizeOf5
  v5 := Tryd.zeroValue5
  t9 := Tryd.underlying9
  a9 := Tryd.isAgg9
  z9 := Tryd.sizeOf9
  v9 := Tryd.zeroValue9
  t46 := Tryd.underlying86
  a46 := Tryd.isAgg86
  z46 := Tryd.sizeOf86
  v46 := Tryd.zeroValue86
  t51 := Tryd.underlying102
  a51 := Tryd.isAgg102
  z51 := Tryd.sizeOf102
  v51 := Tryd.zeroValue102
  t146 := Tryd.underlying127
  a146 := Tryd.isAgg127
  z146 := Tryd.sizeOf127
  v146 := Tryd.zeroValue127
  g1 := by kernel_rfl }
end Go.Proofs.YtihhabidfcgogaaDoor

/- What stands between a text's marks, by where the next mark stands. -/
namespace Go.Proofs.YtihhabidfcgogaaDoor
open Go.RowKit

theorem ixOf_first (l : List UInt8) (c : UInt8) : (ixOf l c = -1 ∧ c ∉ l) ∨ ∃ n : Nat, n < l.length ∧ ixOf l c = n ∧ c ∉ l.take n ∧ l = l.take n ++ c :: l.drop (n + 1) := by
  unfold ixOf
  induction l with
  | nil => exact .inl ⟨rfl, by simp⟩
  | cons b r ih =>
    unfold Lib.indexByte
    by_cases hb : b = c
    · subst hb
      exact .inr ⟨0, by simp, by simp, by simp, rfl⟩
    · rw [if_neg (by simpa using hb)]
      rcases ih with ⟨h1, h2⟩ | ⟨n, h1, h2, h3, h4⟩
      · exact .inl ⟨by rw [h1]; rfl, by simp [h2, Ne.symm hb]⟩
      · refine .inr ⟨n + 1, by simpa using h1, ?_, by simp [h3, Ne.symm hb], by simp only [List.take_succ_cons, List.drop_succ_cons, List.cons_append]; rw [← h4]⟩
        rw [h2, if_neg (by simp)]
        simp

theorem extract_data (s : ByteArray) (a b : Nat) : (s.extract a b).data.toList = (s.data.toList.drop a).take (b - a) := by
  rw [ByteArray.data_extract, Array.toList_extract, List.extract_eq_take_drop]
theorem upto_data (s : ByteArray) (b : Nat) : (s.extract 0 b).data.toList = s.data.toList.take b := by rw [extract_data]; simp
theorem from_data (s : ByteArray) (a : Nat) : (s.extract a s.size).data.toList = s.data.toList.drop a := by
  rw [extract_data, List.take_of_length_le]
  simp
theorem bs_of {s : ByteArray} {l : List UInt8} (h : s.data.toList = l) : s = bs l := by rw [← h, bs_self]
/-- The parts of a text, as texts. -/
def partsOf (c : UInt8) (s : ByteArray) : List ByteArray := (splitL c s.data.toList).map bs
theorem partsOf_none (c : UInt8) (s : ByteArray) (h : c ∉ s.data.toList) : partsOf c s = [s] := by
  unfold partsOf
  rw [splitL_part c _ h, List.map_singleton, bs_self]
theorem partsOf_more (c : UInt8) (s : ByteArray) (n : Nat) (_hn : n < s.size) (h1 : c ∉ s.data.toList.take n) (h2 : s.data.toList = s.data.toList.take n ++ c :: s.data.toList.drop (n + 1)) :
    partsOf c s = s.extract 0 n :: partsOf c (s.extract (n + 1) s.size) := by
  unfold partsOf
  rw [h2, splitL_more c _ _ h1, List.map_cons, from_data, ← bs_of (upto_data s n)]
end Go.Proofs.YtihhabidfcgogaaDoor

/- Where a text of one byte stands in a text, by the library. -/
namespace Go.Proofs.YtihhabidfcgogaaDoor
open Go.RowKit Go.Shelf

theorem index_at (s : ByteArray) (c : UInt8) (w : World) :
    Calls Tryd.prog 91 #[.string s, .string ⟨#[c]⟩] w fun e w' => e = .returned (.int .i64 (ixOf s.data.toList c)) ∧ w' = w := Any.stringslite_Index_one lays219 s c w
end Go.Proofs.YtihhabidfcgogaaDoor

/- What stands ahead of a text's first mark, and behind it, by the library. -/
namespace Go.Proofs.YtihhabidfcgogaaDoor
open Go.RowKit Go.Shelf

/-- A text ahead of its first mark, and behind it; whether there is one. -/
def cutL (c : UInt8) : List UInt8 → List UInt8 × List UInt8 × Bool
  | [] => ([], [], false)
  | b :: t => if b = c then ([], t, true) else (b :: (cutL c t).1, (cutL c t).2.1, (cutL c t).2.2)
theorem cutL_none (c : UInt8) : ∀ l, c ∉ l → cutL c l = (l, [], false)
  | [], _ => rfl
  | b :: t, h => by
    have h1 : b ≠ c := fun e => h (by simp [e])
    rw [cutL, if_neg h1, cutL_none c t (fun e => h (by simp [e]))]
theorem cutL_some (c : UInt8) (b : List UInt8) : ∀ a, c ∉ a → cutL c (a ++ c :: b) = (a, b, true)
  | [], _ => by simp [cutL]
  | x :: a, h => by
    have h1 : x ≠ c := fun e => h (by simp [e])
    rw [List.cons_append, cutL, if_neg h1, cutL_some c b a (fun e => h (by simp [e]))]
theorem cutBelow {B : Nat} {a w : World} (h : Below B a w) (n : Nat) : Below B a (w.drewN n) := h.trans ⟨rfl, rfl, rfl, Nat.le_refl _, fun _ _ => rfl⟩
set_option maxHeartbeats 1000000 in
theorem cut_any (s : ByteArray) (c : UInt8) (hs : s.size ≤ 5000) (w : World) :
    Calls Tryd.prog 62 #[.string s, .string ⟨#[c]⟩] w fun e w' => ∃ (a b : ByteArray) (f : Bool), e = .returned (.tuple #[.string a, .string b, .bool f]) ∧ a.size ≤ s.size ∧ b.size ≤ s.size ∧ Hid (cutL c s.data.toList = (a.data.toList, b.data.toList, f)) ∧ Below w.heap.size w w' := by
  rcases ixOf_first s.data.toList c with ⟨hi, hno⟩ | ⟨k, hk, hi, hno, hsp⟩
  · have HE : Hid (cutL c s.data.toList = (s.data.toList, [], false)) := cutL_none c _ hno
    clear hno
    have hin : ∀ w, Calls Tryd.prog 76 #[.string s, .string ⟨#[c]⟩] w fun e w' => e = .returned (.tuple #[.string s, .string ⟨#[]⟩, .bool false]) ∧ w' = w := by
      intro w
      go_enter Tryd.func76, Tryd.ntmps76
      go_wp2_with (go_at_call 91; refine (index_at s c _).mono ?_; rintro e w' ⟨rfl, rfl⟩)
      (try simp only [Exit.inBlock, Exit.then])
      refine bodyPost_ret (results_tmp3 rfl _ _ _) rfl ⟨rfl, rfl⟩
    go_enter Tryd.func62, Tryd.ntmps62
    go_wp2_with (go_at_call 76; refine (hin _).mono ?_; rintro e w' ⟨rfl, rfl⟩)
    (try simp only [Exit.inBlock, Exit.then])
    refine bodyPost_ret (results_tmp3 rfl _ _ _) rfl ⟨s, ⟨#[]⟩, false, rfl, Nat.le_refl _, Nat.zero_le _, HE, Below.refl _ _⟩
  · have hk' : k < s.size := by simpa using hk
    have HE : Hid (cutL c s.data.toList = ((s.extract 0 k).data.toList, (s.extract (k + 1) s.size).data.toList, true)) := by
      show _ = _
      rw [upto_data, from_data]
      conv => lhs; rw [hsp]
      exact cutL_some c _ _ hno
    clear hno hsp hk
    have hin : ∀ w, Calls Tryd.prog 76 #[.string s, .string ⟨#[c]⟩] w fun e w' => e = .returned (.tuple #[.string (s.extract 0 k), .string (s.extract (k + 1) s.size), .bool true]) ∧ Below w.heap.size w w' := by
      intro w
      have b1 : (0 : Int) ≤ (k : Int) := by omega
      have b2 : (k : Int) ≤ (s.size : Int) := by omega
      have b3 : (k : Int) + 1 ≤ (s.size : Int) := by omega
      have b4 : (0 : Int) ≤ (k : Int) + 1 := by omega
      have b5 : IntKind.i64.wrap ((k : Int) + 1) = (k : Int) + 1 := IntWalk.i64_in _ ⟨by omega, by omega⟩
      go_enter Tryd.func76, Tryd.ntmps76
      go_wp2_with (go_at_call 91; refine (index_at s c _).mono ?_; rintro e w' ⟨rfl, rfl⟩)
      go_quiet (fail)
      go_wp2
      (try simp only [Exit.inBlock, Exit.then])
      refine bodyPost_ret (results_tmp3 rfl _ _ _) rfl ⟨rfl, cutBelow (Below.refl _ _) _⟩
    go_enter Tryd.func62, Tryd.ntmps62
    go_wp2_with (go_at_call 76; refine (hin _).mono ?_; rintro e w' ⟨rfl, hb⟩)
    (try simp only [Exit.inBlock, Exit.then])
    refine bodyPost_ret (results_tmp3 rfl _ _ _) rfl ⟨_, _, true, rfl, by simp; omega, by simp, HE, hb⟩

end Go.Proofs.YtihhabidfcgogaaDoor

/- Whether a type is one that a form of a page may send, and whether a header may be sent without asking, by the program. -/
namespace Go.Proofs.YtihhabidfcgogaaDoor
open Go.RowKit Go.Shelf

def formA : List UInt8 := [97, 112, 112, 108, 105, 99, 97, 116, 105, 111, 110, 47, 120, 45, 119, 119, 119, 45, 102, 111, 114, 109, 45, 117, 114, 108, 101, 110, 99, 111, 100, 101, 100]
def formB : List UInt8 := [109, 117, 108, 116, 105, 112, 97, 114, 116, 47, 102, 111, 114, 109, 45, 100, 97, 116, 97]
def formC : List UInt8 := [116, 101, 120, 116, 47, 112, 108, 97, 105, 110]
def kindL (l : List UInt8) : List UInt8 := (trimW (cutL 59 l).1).map low
/-- A type that a form of a page may send. -/
def formL (l : List UInt8) : Bool := kindL l == formA || (kindL l == formB || kindL l == formC)
set_option maxHeartbeats 1000000 in
theorem form_any (s : ByteArray) (hs : s.size ≤ 3000) (w : World) :
    Calls Tryd.prog 57 #[.string s] w fun e w' => e = .returned (.bool (formL s.data.toList)) ∧ Below w.heap.size w w' := by
  go_enter Tryd.func57, Tryd.ntmps57
  go_wp2_with fail
  refine (cut_any s 59 (by omega) _).mono ?_
  rintro e w1 ⟨a, b, f, rfl, ha, hb, HC, hb1⟩
  have HB1 : Hid (Below w.heap.size w w1) := hb1
  clear hb1
  go_wp2_with fail
  refine (trimBoth_any a (by omega) _).mono ?_
  rintro e w2 ⟨t, rfl, HT, ht, hb2⟩
  have HB2 : Hid (Below w.heap.size w w2) := HB1.out.trans (hb2.mono HB1.out.size)
  clear hb2
  obtain ⟨x, HX⟩ : ∃ x : ByteArray, Hid (bs (t.data.toList.map low) = x) := ⟨_, rfl⟩
  have HK : Hid (kindL s.data.toList = x.toList) := by
    show _ = _
    unfold kindL
    rw [HC.out, ← HT.out, ByteArray.toList_eq, ← HX.out, bs_data]
  go_wp2_with fail
  refine (lower_any t _ (by omega)).mono ?_
  rintro e w3 ⟨rfl, hb3⟩
  have HB3 : Hid (Below w.heap.size w w3) := HB2.out.trans (hb3.mono HB2.out.size)
  clear hb3
  rw [HX.out]
  have HF : Hid (formL s.data.toList = (x.toList == formA || (x.toList == formB || x.toList == formC))) := by
    show _ = _
    unfold formL
    rw [HK.out]
  unfold formA formB formC at HF
  go_wp2
  all_goals
    go_ret
    exact ⟨ret_bool (by rw [HF.out]; simp_all), HB3.out⟩
end Go.Proofs.YtihhabidfcgogaaDoor

/- Whether a header may be sent without asking, by the program. -/
namespace Go.Proofs.YtihhabidfcgogaaDoor
open Go.RowKit Go.Shelf

def nmA : List UInt8 := [97, 99, 99, 101, 112, 116]
def nmL : List UInt8 := [97, 99, 99, 101, 112, 116, 45, 108, 97, 110, 103, 117, 97, 103, 101]
def nmC : List UInt8 := [99, 111, 110, 116, 101, 110, 116, 45, 108, 97, 110, 103, 117, 97, 103, 101]
def nmT : List UInt8 := [99, 111, 110, 116, 101, 110, 116, 45, 116, 121, 112, 101]
/-- A header, of this name in small letters, that may be sent without asking. -/
def plainN (x v : List UInt8) : Bool := if x == nmA then v.all safeB else if x == nmL then v.all tongB else if x == nmC then v.all tongB else if x == nmT then v.all safeB && formL v else false
def plainL (n v : List UInt8) : Bool := decide (v.length ≤ 128) && plainN (n.map low) v
theorem two_at {w : World} {g : Nat} {v0 v1 : Value} {T : TypeId} (h : w.heap[g]? = some (.cells #[v0, v1] T (0, 0))) : w.cell? ⟨g, 0, none⟩ = some v0 ∧ w.cell? ⟨g, 1, none⟩ = some v1 ∧ ∀ j, w.frozen? ⟨g, j, none⟩ = false :=
  ⟨by simp [World.cell?, h], by simp [World.cell?, h], fun j => by simp [World.frozen?, h]⟩
set_option maxHeartbeats 4000000 in
theorem plain_any (n v : ByteArray) (hn : n.size ≤ 4000) (hv : v.size ≤ 140737488355328) (w : World) :
    Calls Tryd.prog 41 #[.agg #[.string n, .string v]] w fun e w' => e = .returned (.bool (plainL n.data.toList v.data.toList)) ∧ Below w.heap.size w w' := by
  have hlv : v.data.toList.length = v.size := Array.length_toList
  have hb0 : Below w.heap.size w (w.alloc (.cells #[.string n, .string v] 71)) := (Below.refl _ _).alloc (Nat.le_refl _) _
  by_cases hl : v.size ≤ 128
  · have hlz : ¬ (128 : Int) < (v.size : Int) := by omega
    obtain ⟨x, HX⟩ : ∃ x : ByteArray, Hid (bs (n.data.toList.map low) = x) := ⟨_, rfl⟩
    have HP : Hid (plainL n.data.toList v.data.toList = plainN x.toList v.data.toList) := by
      show _ = _
      unfold plainL
      rw [hlv, decide_eq_true hl, Bool.true_and, ByteArray.toList_eq, ← HX.out, bs_data]
    have HN : Hid (∀ w', Below (w.alloc (.cells #[.string n, .string v] 71)).heap.size (w.alloc (.cells #[.string n, .string v] 71)) w' → Below w.heap.size w w' ∧ w'.heap[w.heap.size]? = some (.cells #[.string n, .string v] 71 (0, 0))) := fun w' hb => ⟨hb0.trans (hb.mono (by simp)), (hb.block _ (by simp)).trans (heap_alloc_new w _)⟩
    clear hb0 hlv
    go_enter Tryd.func41, Tryd.ntmps41
    go_wp2_with fail
    refine (lower_any n _ (by omega)).mono ?_
    rintro e w1 ⟨rfl, hb1⟩
    have HB1 := HN.out _ hb1
    have HB : Hid (Below w.heap.size w w1) := HB1.1
    obtain ⟨x0, x1, _⟩ := two_at HB1.2
    rw [HX.out]
    clear hb1 HB1
    unfold plainN nmA nmL nmC nmT at HP
    cases a1 : (x.toList == [97, 99, 99, 101, 112, 116])
    rotate_left
    · have HQ : Hid (plainL n.data.toList v.data.toList = v.data.toList.all safeB) := by
        show _ = _
        rw [HP.out, a1]; rfl
      obtain ⟨b, HBB⟩ : ∃ b : Bool, Hid (v.data.toList.all safeB = b) := ⟨_, rfl⟩
      go_wp2_with fail
      refine (all_any _ _ kind_safe v (by omega) _).mono ?_
      rintro e w' ⟨rfl, hw⟩
      obtain rfl := hw.symm
      rw [HBB.out]
      go_wp2
      go_ret
      exact ⟨ret_bool (by rw [HQ.out, HBB.out]), HB.out⟩
    cases a2 : (x.toList == [97, 99, 99, 101, 112, 116, 45, 108, 97, 110, 103, 117, 97, 103, 101])
    rotate_left
    · have HQ : Hid (plainL n.data.toList v.data.toList = v.data.toList.all tongB) := by
        show _ = _
        rw [HP.out, a1, a2]; rfl
      obtain ⟨b, HBB⟩ : ∃ b : Bool, Hid (v.data.toList.all tongB = b) := ⟨_, rfl⟩
      go_wp2_with fail
      refine (all_any _ _ kind_tong v (by omega) _).mono ?_
      rintro e w' ⟨rfl, hw⟩
      obtain rfl := hw.symm
      rw [HBB.out]
      go_wp2
      go_ret
      exact ⟨ret_bool (by rw [HQ.out, HBB.out]), HB.out⟩
    cases a3 : (x.toList == [99, 111, 110, 116, 101, 110, 116, 45, 108, 97, 110, 103, 117, 97, 103, 101])
    rotate_left
    · have HQ : Hid (plainL n.data.toList v.data.toList = v.data.toList.all tongB) := by
        show _ = _
        rw [HP.out, a1, a2, a3]; rfl
      obtain ⟨b, HBB⟩ : ∃ b : Bool, Hid (v.data.toList.all tongB = b) := ⟨_, rfl⟩
      go_wp2_with fail
      refine (all_any _ _ kind_tong v (by omega) _).mono ?_
      rintro e w' ⟨rfl, hw⟩
      obtain rfl := hw.symm
      rw [HBB.out]
      go_wp2
      go_ret
      exact ⟨ret_bool (by rw [HQ.out, HBB.out]), HB.out⟩
    cases a4 : (x.toList == [99, 111, 110, 116, 101, 110, 116, 45, 116, 121, 112, 101])
    · have HQ : Hid (plainL n.data.toList v.data.toList = false) := by
        show _ = _
        rw [HP.out, a1, a2, a3, a4]; rfl
      go_wp2
      go_ret
      exact ⟨ret_bool (by rw [HQ.out]), HB.out⟩
    · have HQ : Hid (plainL n.data.toList v.data.toList = (v.data.toList.all safeB && formL v.data.toList)) := by
        show _ = _
        rw [HP.out, a1, a2, a3, a4]; rfl
      obtain ⟨b, HBB⟩ : ∃ b : Bool, Hid (v.data.toList.all safeB = b) := ⟨_, rfl⟩
      obtain ⟨d, HD⟩ : ∃ b : Bool, Hid (formL v.data.toList = b) := ⟨_, rfl⟩
      go_wp2_with fail
      refine (all_any _ _ kind_safe v (by omega) _).mono ?_
      rintro e w' ⟨rfl, hw⟩
      obtain rfl := hw.symm
      rw [HBB.out]
      cases b
      · go_wp2
        go_ret
        exact ⟨ret_bool (by rw [HQ.out, HBB.out]; rfl), HB.out⟩
      · go_wp2_with fail
        refine (form_any v (by omega) _).mono ?_
        rintro e w2 ⟨rfl, hb2⟩
        rw [HD.out]
        go_wp2
        go_ret
        exact ⟨ret_bool (by rw [HQ.out, HBB.out, HD.out]; rfl), HB.out.trans (hb2.mono HB.out.size)⟩
  · have hlz : (128 : Int) < (v.size : Int) := by omega
    have HP : Hid (plainL n.data.toList v.data.toList = false) := by
      show _ = _
      unfold plainL
      rw [hlv, decide_eq_false hl, Bool.false_and]
    go_enter Tryd.func41, Tryd.ntmps41
    go_wp2
    go_ret
    exact ⟨ret_bool (by rw [HP.out]), hb0⟩
end Go.Proofs.YtihhabidfcgogaaDoor

/- One text more at a row of texts that a call owns. -/
namespace Go.Proofs.YtihhabidfcgogaaDoor
open Go.RowKit

theorem info9 : (Tryd.prog.info? 9).map (fun i => (i.zero, i.size, i.bytes)) = some (some (.string ⟨#[]⟩), 1, 16) := by kernel_rfl
/-- A value of type []string that owns these texts, among the blocks from B on. -/
def OwnS (w : World) (B : Nat) (v : Value) (xs : List ByteArray) : Prop := w.ownsRow B 9 1 v xs.length (xs.map Value.string)
theorem OwnS.lt {w : World} {B : Nat} {v : Value} {xs : List ByteArray} (h : OwnS w B v xs) : ∀ k, v.ownBlock = some k → B ≤ k ∧ k < w.heap.size := World.ownsRow.lt h
theorem OwnS.grown {w w' : World} {B b : Nat} {v : Value} {xs : List ByteArray} (h : OwnS w B v xs) (hg : w.grownBy w' (some b)) (hb : b < B) : OwnS w' B v xs := by
  refine World.ownsRow.kept h hg (.inr ?_)
  intro e
  have := (h.lt b e).1
  omega
theorem OwnS.below {w w' : World} {B : Nat} {v : Value} {xs : List ByteArray} (h : OwnS w B v xs) (hb : Below w.heap.size w w') : OwnS w' B v xs := by
  refine World.ownsRow.kept (row := none) h ⟨hb.os, hb.tape, hb.output, hb.size, fun i hi _ => hb.block i hi⟩ ?_
  rcases v.ownBlock with _ | k
  · exact .inl rfl
  · exact .inr (by simp)
theorem ownS_nil (w : World) (B : Nat) : OwnS w B (.slice none 0 0) [] := ⟨rfl, .inl ⟨rfl, rfl⟩⟩
theorem wp_apps {ops : Array Oper} {rest : List Oper} {o : Oper} {a : Act} {Q : Exit → Act → World → Prop} (hgd : o.guard = none) (s x : Operand)
    (ho : o.op = .call { callee := .builtin .append, args := #[s, x], argTypes := #[50, 50] })
    (B : Nat) (wr : World) (v : Value) (xs : List ByteArray) (n : Nat) (hs : a.eval s = v) (hown : OwnS wr B v xs) (hn : xs.length = n) (hl : n ≤ 100000) (hB : B ≤ wr.heap.size)
    (t : ByteArray) (hx : a.eval x = .slice (some ⟨wr.heap.size, 0, none⟩) 1 1)
    (h : ∀ g cap w', OwnS w' B (.slice (some ⟨g, 0, none⟩) (n + 1) cap) (xs ++ [t]) → (wr.alloc (.cells #[.string t] 9)).grownBy w' v.ownBlock → g < w'.heap.size → wpList Tryd.prog ops Q rest (a.put o.dst (.slice (some ⟨g, 0, none⟩) (n + 1) cap)) w') :
    wpList Tryd.prog ops Q (o :: rest) a (wr.alloc (.cells #[.string t] 9)) := by
  subst hn
  obtain ⟨i0, hi0, hz0, hz1, hz2⟩ := info_parts info9
  refine wpList_append_lies _ hgd s x 50 ho B 9 i0 (.string ⟨#[]⟩) 1 16 Tryd.underlying50 hi0 hz0 hz1 hz2 rfl (by omega) v xs.length _ hs (World.ownsRow.alloc hown _) ⟨wr.heap.size, 0, none⟩ 1 1 [.string t] hx rfl
    (World.news_of_block (cs := #[.string t]) (t := 9) (fr := (0, 0)) (heap_alloc_new wr _)) (by simp [Value.oneCell']) (by omega) (by unfold maxLen; omega) (by omega) (by simp; omega) _ rfl ?_
  intro g cap w' hown1 hgrow _ hlt
  refine h g cap w' ?_ hgrow hlt
  unfold OwnS
  rw [List.length_append, List.map_append]
  exact hown1
end Go.Proofs.YtihhabidfcgogaaDoor

/- The library's contracts that are leant on, laid at this program's numbers. -/
namespace Go.Proofs.YtihhabidfcgogaaDoor
open Go.Shelf Go.RowKit
def lays190_ren : Go.Shelf.Ren := ⟨fun | 190 => 42 | 125 => 59 | 258 => 58 | 128 => 73 | 129 => 74 | 302 => 64 | 303 => 65 | 304 => 66 | 305 => 67 | 306 => 68 | 307 => 69 | 308 => 70 | 309 => 71 | 310 => 72 | 333 => 84 | 329 => 85 | 330 => 86 | 334 => 87 | 335 => 88 | 336 => 89 | 344 => 96 | n => n, fun | 31 => 50 | 9 => 9 | 3 => 3 | 46 => 86 | 0 => 0 | 51 => 102 | 53 => 104 | 4 => 4 | 183 => 95 | 182 => 94 | 131 => 99 | 5 => 5 | 218 => 112 | 222 => 116 | 228 => 122 | 229 => 123 | n => n, fun | n => n⟩
theorem lays190 : Go.Proofs.Lays.n190 Tryd.prog lays190_ren := {
  mixed := by kernel_rfl
  f125 := Tryd.func59.trans (congrArg some (by kernel_rfl))
  f128 := Tryd.func73.trans (congrArg some (by kernel_rfl))
  f129 := Tryd.func74.trans (congrArg some (by kernel_rfl))
  f190 := Tryd.func42.trans (congrArg some (by kernel_rfl))
  f258 := Tryd.func58.trans (congrArg some (by kernel_rfl))
  f302 := Tryd.func64.trans (congrArg some (by kernel_rfl))
  f303 := Tryd.func65.trans (congrArg some (by kernel_rfl))
  f304 := Tryd.func66.trans (congrArg some (by kernel_rfl))
  f305 := Tryd.func67.trans (congrArg some (by kernel_rfl))
  f306 := Tryd.func68.trans (congrArg some (by kernel_rfl))
  f307 := Tryd.func69.trans (congrArg some (by kernel_rfl))
  f308 := Tryd.func70.trans (congrArg some (by kernel_rfl))
  f309 := Tryd.func71.trans (congrArg some (by kernel_rfl))
  f310 := Tryd.func72.trans (congrArg some (by kernel_rfl))
  f329 := Tryd.func85.trans (congrArg some (by kernel_rfl))
  f330 := Tryd.func86.trans (congrArg some (by kernel_rfl))
  f333 := Tryd.func84.trans (congrArg some (by kernel_rfl))
  f334 := Tryd.func87.trans (congrArg some (by kernel_rfl))
  f335 := Tryd.func88.trans (congrArg some (by kernel_rfl))
  f336 := Tryd.func89.trans (congrArg some (by kernel_rfl))
  f344 := Tryd.func96.trans (congrArg some (by kernel_rfl))
  t0 := Tryd.underlying0
  a0 := Tryd.isAgg0
  z0 := Tryd.sizeOf0
  v0 := Tryd.zeroValue0
  t3 := Tryd.underlying3
  a3 := Tryd.isAgg3
  z3 := Tryd.sizeOf3
  v3 := Tryd.zeroValue3
  t4 := Tryd.underlying4
  a4 := Tryd.isAgg4
  z4 := Tryd.sizeOf4
  v4 := Tryd.zeroValue4
  t5 := Tryd.underlying5
  a5 := Tryd.isAgg5
  z5 := Tryd.sizeOf5
  v5 := Tryd.zeroValue5
  t9 := Tryd.underlying9
  a9 := Tryd.isAgg9
  z9 := Tryd.sizeOf9
  v9 := Tryd.zeroValue9
  t31 := Tryd.underlying50
  a31 := Tryd.isAgg50
  z31 := Tryd.sizeOf50
  v31 := Tryd.zeroValue50
  t46 := Tryd.underlying86
  a46 := Tryd.isAgg86
  z46 := Tryd.sizeOf86
  v46 := Tryd.zeroValue86
  t51 := Tryd.underlying102
  a51 := Tryd.isAgg102
  z51 := Tryd.sizeOf102
  v51 := Tryd.zeroValue102
  t53 := Tryd.underlying104
  a53 := Tryd.isAgg104
  z53 := Tryd.sizeOf104
  v53 := Tryd.zeroValue104
  t131 := Tryd.underlying99
  a131 := Tryd.isAgg99
  z131 := Tryd.sizeOf99
  v131 := Tryd.zeroValue99
  t182 := Tryd.underlying94
  a182 := Tryd.isAgg94
  z182 := Tryd.sizeOf94
  v182 := Tryd.zeroValue94
  t183 := Tryd.underlying95
  a183 := Tryd.isAgg95
  z183 := Tryd.sizeOf95
  v183 := Tryd.zeroValue95
  t218 := Tryd.underlying112
  a218 := Tryd.isAgg112
  z218 := Tryd.sizeOf112
  v218 := Tryd.zeroValue112
  t222 := Tryd.underlying116
  a222 := Tryd.isAgg116
  z222 := Tryd.sizeOf116
  v222 := Tryd.zeroValue116
  t228 := Tryd.underlying122
  a228 := Tryd.isAgg122
  z228 := Tryd.sizeOf122
  v228 := Tryd.zeroValue122
  t229 := Tryd.underlying123
  a229 := Tryd.isAgg123
  z229 := Tryd.sizeOf123
  v229 := Tryd.zeroValue123 }
def lays194_ren : Go.Shelf.Ren := ⟨fun | 194 => 43 | n => n, fun | 31 => 50 | 9 => 9 | 3 => 3 | 4 => 4 | 0 => 0 | n => n, fun | n => n⟩
theorem lays194 : Go.Proofs.Lays.n194 Tryd.prog lays194_ren := {
  mixed := by kernel_rfl
  f194 := Tryd.func43.trans (congrArg some (by kernel_rfl))
  t0 := Tryd.underlying0
  a0 := Tryd.isAgg0
  z0 := Tryd.sizeOf0
  v0 := Tryd.zeroValue0
  t3 := Tryd.underlying3
  a3 := Tryd.isAgg3
  z3 := Tryd.sizeOf3
  v3 := Tryd.zeroValue3
  t4 := Tryd.underlying4
  a4 := Tryd.isAgg4
  z4 := Tryd.sizeOf4
  v4 := Tryd.zeroValue4
  t9 := Tryd.underlying9
  a9 := Tryd.isAgg9
  z9 := Tryd.sizeOf9
  v9 := Tryd.zeroValue9
  t31 := Tryd.underlying50
  a31 := Tryd.isAgg50
  z31 := Tryd.sizeOf50
  v31 := Tryd.zeroValue50 }
end Go.Proofs.YtihhabidfcgogaaDoor
