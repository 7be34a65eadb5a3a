/- What a field's name tells in an answer. -/
import Derived.Test.YtoblpjknnchlmabGreatDoorSam
import Derived.Test.YtoblpjknnchlmabGreatDoorAkD
namespace Go.Proofs.YtoblpjknnchlmabGreatDoor

/-- One value more behind what is there. -/
def joinV (s : Option (List UInt8)) (v : List UInt8) : List UInt8 := match s with | none => v | some o => o ++ 44 :: 32 :: v
def getStep (n : List UInt8) (s : Option (List UInt8)) (p : Par) : Option (List UInt8) := if sameL p.1.data.toList n then some (joinV s p.2.data.toList) else s
/-- The values of a name, a comma and a blank between. -/
def fieldL (n : List UInt8) (ps : List Par) : Option (List UInt8) := ps.foldl (getStep n) none
def fieldT (n : List UInt8) (ps : List Par) : List UInt8 := (fieldL n ps).getD []
theorem fieldL_snoc (n : List UInt8) {ps : List Par} {k : Nat} {p : Par} (h : ps[k]? = some p) : fieldL n (ps.take (k + 1)) = getStep n (fieldL n (ps.take k)) p := by
  obtain ⟨hk, e⟩ := List.getElem?_eq_some_iff.1 h
  rw [List.take_succ_eq_append_getElem hk, e]
  unfold fieldL
  rw [List.foldl_append]
  rfl
theorem fieldL_other {n : List UInt8} {ps : List Par} {k : Nat} {p : Par} (h : ps[k]? = some p) (hs : sameL p.1.data.toList n = false) : fieldL n (ps.take (k + 1)) = fieldL n (ps.take k) := by
  rw [fieldL_snoc n h]
  unfold getStep
  rw [hs]
  rfl
theorem fieldL_same {n : List UInt8} {ps : List Par} {k : Nat} {p : Par} (h : ps[k]? = some p) (hs : sameL p.1.data.toList n = true) : fieldL n (ps.take (k + 1)) = some (joinV (fieldL n (ps.take k)) p.2.data.toList) := by
  rw [fieldL_snoc n h]
  unfold getStep
  rw [hs]
  rfl
theorem fieldT_none {n : List UInt8} {ps : List Par} (h : fieldL n ps = none) : fieldT n ps = [] := by unfold fieldT; rw [h]; rfl
theorem fieldT_some {n : List UInt8} {ps : List Par} {o : List UInt8} (h : fieldL n ps = some o) : fieldT n ps = o := by unfold fieldT; rw [h]; rfl
/-- The names' letters alone count. -/
theorem sameL_low {n m : List UInt8} (h : n.map low = m.map low) (a : List UInt8) : sameL a n = sameL a m := by unfold sameL; rw [h]
theorem fieldL_low {n m : List UInt8} (h : n.map low = m.map low) (ps : List Par) : fieldL n ps = fieldL m ps := by
  unfold fieldL
  congr 1
  funext s p
  unfold getStep
  rw [sameL_low h]
theorem fieldT_low {n m : List UInt8} (h : n.map low = m.map low) (ps : List Par) : fieldT n ps = fieldT m ps := by unfold fieldT; rw [fieldL_low h]
theorem fieldT_step_len (n : List UInt8) (s : Option (List UInt8)) (p : Par) : ((getStep n s p).getD []).length ≤ (s.getD []).length + p.2.size + 2 := by
  have hz : p.2.data.toList.length = p.2.size := Array.length_toList
  unfold getStep
  split
  · cases s with
    | none => simp only [Option.getD_some, Option.getD_none, joinV, hz]; simp
    | some o => simp only [Option.getD_some, joinV, List.length_append, List.length_cons, hz]; omega
  · omega
theorem fieldT_take_len (n : List UInt8) (ps : List Par) (m : Nat) (hm : ∀ p ∈ ps, p.2.size ≤ m) (k : Nat) : (fieldT n (ps.take k)).length ≤ (m + 2) * k := by
  induction k with
  | zero => simp [fieldT, fieldL]
  | succ k ih =>
    by_cases h : k < ps.length
    · have h1 : ps[k]? = some ps[k] := List.getElem?_eq_getElem h
      have h2 := fieldT_step_len n (fieldL n (ps.take k)) ps[k]
      have h3 := hm _ (List.getElem_mem h)
      unfold fieldT at ih ⊢
      rw [fieldL_snoc n h1, Nat.mul_succ]
      omega
    · rw [List.take_of_length_le (by omega)] at ih ⊢
      rw [Nat.mul_succ]
      omega
theorem fieldT_len (n : List UInt8) (ps : List Par) (m : Nat) (hm : ∀ p ∈ ps, p.2.size ≤ m) : (fieldT n ps).length ≤ (m + 2) * ps.length := by
  have h := fieldT_take_len n ps m hm ps.length
  rwa [List.take_length] at h
/-- Fields of an answer that are few and small enough. -/
def Few9 (ps : List Par) : Prop := ps.length ≤ 45 ∧ ∀ p ∈ ps, p.1.size ≤ 300 ∧ p.2.size ≤ 300
theorem Few9.len {ps : List Par} (h : Few9 ps) (n : List UInt8) : (fieldT n ps).length ≤ 13590 := by
  have h1 := fieldT_len n ps 300 (fun p hp => (h.2 p hp).2)
  have h2 := h.1
  have h3 : (300 + 2) * ps.length ≤ 302 * 45 := Nat.mul_le_mul_left _ h2
  omega
end Go.Proofs.YtoblpjknnchlmabGreatDoor
