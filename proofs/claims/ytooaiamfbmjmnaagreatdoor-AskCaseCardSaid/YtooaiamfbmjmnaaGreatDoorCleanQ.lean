/- What Clean gathers, part by part: over lists of bytes. -/
import Derived.Test.YtooaiamfbmjmnaaGreatDoorSpl
namespace Go.Proofs.YtooaiamfbmjmnaaGreatDoor
open Go.RowKit

/-- The parts that stand so far. -/
def stk (acc : List (List UInt8)) : List (List UInt8) → List (List UInt8)
  | [] => acc
  | p :: r => stk (cleanStep false acc p) r
theorem stk_snoc (ps : List (List UInt8)) (p : List UInt8) : ∀ acc, stk acc (ps ++ [p]) = cleanStep false (stk acc ps) p := by
  induction ps with
  | nil => intro acc; rfl
  | cons q r ih => intro acc; exact ih _
/-- They, each behind its slash. -/
def flat (ps : List (List UInt8)) : List UInt8 := ps.flatMap (fun p => 47 :: p)
theorem flat_snoc (ps : List (List UInt8)) (p : List UInt8) : flat (ps ++ [p]) = flat ps ++ 47 :: p := by simp [flat]
theorem flat_join : ∀ ps : List (List UInt8), ps ≠ [] → flat ps = 47 :: joinL 47 ps
  | [], h => absurd rfl h
  | [p], _ => by simp [flat, joinL]
  | p :: q :: r, _ => by
    have ih := flat_join (q :: r) (by simp)
    have e : joinL 47 (p :: q :: r) = p ++ 47 :: joinL 47 (q :: r) := by rw [joinL]; simp
    show 47 :: p ++ flat (q :: r) = _
    rw [ih, e]
    rfl
def dots (p : List UInt8) : Bool := decide (p = [46] ∨ p = [46, 46])
theorem step_true (acc : List (List UInt8)) (p : List UInt8) : cleanStep true acc p = cleanStep false acc p ++ (if dots p then [[]] else []) := by
  unfold cleanStep dots
  by_cases h1 : p = [46]
  · simp [h1]
  · by_cases h2 : p = [46, 46]
    · simp [h2]
    · simp [h1, h2]
theorem parts_stk (ps : List (List UInt8)) (p : List UInt8) : ∀ acc, cleanParts acc (ps ++ [p]) = stk acc (ps ++ [p]) ++ (if dots p then [[]] else []) := by
  induction ps with
  | nil =>
    intro acc
    show cleanParts (cleanStep true acc p) [] = _
    rw [cleanParts, step_true]
    rfl
  | cons q r ih =>
    intro acc
    have hne : (r ++ [p]).isEmpty = false := by cases r <;> rfl
    show cleanParts (cleanStep (r ++ [p]).isEmpty acc q) (r ++ [p]) = _
    rw [hne, ih]
    rfl
theorem step_plain (acc : List (List UInt8)) (p : List UInt8) (ha : ∀ q ∈ acc, (47 : UInt8) ∉ q) (hp : (47 : UInt8) ∉ p) : ∀ q ∈ cleanStep false acc p, (47 : UInt8) ∉ q := by
  intro q hq
  unfold cleanStep at hq
  split at hq
  · exact ha q hq
  split at hq
  · exact ha q ((List.dropLast_sublist acc).subset hq)
  · rcases List.mem_append.1 hq with h | h
    · exact ha q h
    · simp at h
      rw [h]
      exact hp
theorem stk_plain (ps : List (List UInt8)) (hp : ∀ p ∈ ps, (47 : UInt8) ∉ p) : ∀ acc, (∀ q ∈ acc, (47 : UInt8) ∉ q) → ∀ q ∈ stk acc ps, (47 : UInt8) ∉ q := by
  induction ps with
  | nil => intro acc ha; exact ha
  | cons p r ih => intro acc ha; exact ih (fun x hx => hp x (by simp [hx])) _ (step_plain acc p ha (hp p (by simp)))
theorem flat_step_len (acc : List (List UInt8)) (p : List UInt8) : (flat (cleanStep false acc p)).length ≤ (flat acc).length + p.length + 1 := by
  unfold cleanStep
  simp only [Bool.false_eq_true, if_false]
  split
  · omega
  split
  · rcases List.eq_nil_or_concat acc with rfl | ⟨a, x, rfl⟩
    · simp [flat]
    · rw [List.concat_eq_append, List.dropLast_concat, flat_snoc]
      simp
      omega
  · rw [flat_snoc]
    simp
    omega
/-- The last part (none: nothing). -/
def lastP : List ByteArray → ByteArray
  | [] => ⟨#[]⟩
  | [p] => p
  | _ :: q :: r => lastP (q :: r)
theorem lastP_snoc (ps : List ByteArray) (p : ByteArray) : lastP (ps ++ [p]) = p := by
  induction ps with
  | nil => rfl
  | cons q r ih =>
    cases r with
    | nil => rfl
    | cons a b => exact ih
def lists (ps : List ByteArray) : List (List UInt8) := ps.map (fun p => p.data.toList)
def outL (ps : List ByteArray) : List UInt8 := flat (stk [] (lists ps))
theorem outL_snoc (ps : List ByteArray) (p : ByteArray) : outL (ps ++ [p]) = flat (cleanStep false (stk [] (lists ps)) p.data.toList) := by
  unfold outL lists
  rw [List.map_append, List.map_singleton, stk_snoc]
theorem lists_parts (c : UInt8) (s : ByteArray) : lists (partsOf c s) = splitL c s.data.toList := by
  unfold lists partsOf
  rw [List.map_map]
  have : ((fun p : ByteArray => p.data.toList) ∘ bs) = id := by
    funext l
    exact bs_data l
  rw [this, List.map_id]
/-- All parts gathered: the clean path. -/
theorem outL_done (b : ByteArray) : 47 :: joinL 47 (cleanParts [] (splitL 47 b.data.toList)) = outL (partsOf 47 b) ++ (if dots (lastP (partsOf 47 b)).data.toList then [47] else []) := by
  obtain ⟨ps, p, hps⟩ : ∃ (ps : List ByteArray) (p : ByteArray), partsOf 47 b = ps ++ [p] := by
    rcases List.eq_nil_or_concat (partsOf 47 b) with h | ⟨a, x, h⟩
    · exfalso
      have := splitL_ne 47 b.data.toList
      rw [← lists_parts, h] at this
      exact this rfl
    · exact ⟨a, x, by rw [h, List.concat_eq_append]⟩
  have hl : splitL 47 b.data.toList = lists ps ++ [p.data.toList] := by rw [← lists_parts, hps]; simp [lists]
  rw [hps, lastP_snoc, ← flat_join _ (cleanParts_ne _ _ (splitL_ne _ _)), hl, parts_stk]
  have ho : outL (ps ++ [p]) = flat (stk [] (lists ps ++ [p.data.toList])) := by
    unfold outL lists
    rw [List.map_append, List.map_singleton]
  rw [ho]
  by_cases hd : dots p.data.toList = true
  · rw [hd, if_pos rfl, if_pos rfl, flat_snoc]
  · rw [if_neg hd, if_neg hd, List.append_nil, List.append_nil]
theorem outL_len (ps : List ByteArray) (h : ∀ p ∈ ps, p.size ≤ 4000) : (outL ps).length ≤ ps.length * 4001 := by
  have key : ∀ (n : Nat) (qs : List ByteArray), qs.length = n → (∀ p ∈ qs, p.size ≤ 4000) → (outL qs).length ≤ n * 4001 := by
    intro n
    induction n with
    | zero =>
      intro qs hq _
      rw [List.eq_nil_of_length_eq_zero hq]
      simp [outL, lists, stk, flat]
    | succ n ih =>
      intro qs hq hs
      rcases List.eq_nil_or_concat qs with rfl | ⟨a, x, rfl⟩
      · simp at hq
      · rw [List.concat_eq_append] at hq hs ⊢
        have h1 := ih a (by simpa using hq) (fun p hp => hs p (by simp [hp]))
        have h2 := flat_step_len (stk [] (lists a)) x.data.toList
        have h3 := hs x (by simp)
        have h4 : x.data.toList.length = x.size := Array.length_toList
        rw [outL_snoc]
        have h5 : (outL a).length = (flat (stk [] (lists a))).length := rfl
        omega
  exact key _ ps rfl h
theorem splitL_length (c : UInt8) : ∀ l, (splitL c l).length ≤ l.length + 1
  | [] => by simp [splitL]
  | b :: t => by
    have ih := splitL_length c t
    unfold splitL
    split
    · simp
      omega
    · split
      · simp
      · rename_i h
        rw [h] at ih
        simp at ih ⊢
        omega
theorem parts_length (c : UInt8) (s : ByteArray) : (partsOf c s).length ≤ s.size + 1 := by
  unfold partsOf
  rw [List.length_map]
  have := splitL_length c s.data.toList
  have e : s.data.toList.length = s.size := Array.length_toList
  omega
end Go.Proofs.YtooaiamfbmjmnaaGreatDoor
