/- A host is labels with points between: over lists of bytes. -/
import Derived.Test.YtooaiamfbmjmnaaGreatDoorCln
namespace Go.Proofs.YtooaiamfbmjmnaaGreatDoor

/-- A byte of a label. -/
def okc (c : UInt8) : Bool := alnum c || c == 45
/-- What is left of a label behind one of its bytes. -/
def tailB (was : UInt8) : List UInt8 → Bool
  | [] => was != 45
  | c :: t => okc c && tailB c t
def labelB : List UInt8 → Bool
  | [] => false
  | c :: t => okc c && c != 45 && tailB c t
theorem alnum_ne46 (c : UInt8) (h : alnum c = true) : c ≠ 46 ∧ c ≠ 45 := by
  constructor <;> (rintro rfl; revert h; decide)
theorem host_labels (l : List UInt8) : ∀ was, hostFrom was l = match splitL 46 l with
    | [] => false
    | p :: r => (if was = 46 then labelB p else tailB was p) && r.all labelB := by
  induction l with
  | nil =>
    intro was
    simp only [hostFrom, splitL, List.all_nil, Bool.and_true]
    by_cases h : was = 46
    · subst h; decide
    · have hb : (was == 46) = false := beq_eq_false_iff_ne.2 h
      rw [if_neg h]
      simp only [hostStep, tailB, hb, bne]
      cases was == 45 <;> rfl
  | cons c t ih =>
    intro was
    have ht := ih c
    have ht46 := ih 46
    rw [hostFrom]
    by_cases hc : c = 46
    · subst hc
      rw [splitL, if_pos rfl]
      simp only []
      rw [ht46]
      obtain ⟨p, r, e⟩ : ∃ p r, splitL 46 t = p :: r := by
        cases h : splitL 46 t with
        | nil => exact absurd h (splitL_ne _ _)
        | cons p r => exact ⟨p, r, rfl⟩
      rw [e]
      by_cases h : was = 46
      · subst h
        have : hostStep 46 46 = false := by decide
        simp [this, labelB]
      · have hb : (was == 46) = false := beq_eq_false_iff_ne.2 h
        simp only [hostStep, tailB, hb, bne, if_neg h]
        cases was == 45 <;> simp
    · have hb1 : (c == 46) = false := beq_eq_false_iff_ne.2 hc
      rw [splitL, if_neg hc]
      obtain ⟨p, r, e⟩ : ∃ p r, splitL 46 t = p :: r := by
        cases h : splitL 46 t with
        | nil => exact absurd h (splitL_ne _ _)
        | cons p r => exact ⟨p, r, rfl⟩
      rw [ht, e]
      simp only [if_neg hc]
      by_cases h : was = 46
      · subst h
        by_cases h45 : c = 45
        · subst h45
          have : hostStep 46 45 = false := by decide
          simp [this, labelB]
        · have hb2 : (c == 45) = false := beq_eq_false_iff_ne.2 h45
          simp only [hostStep, labelB, okc, hb1, hb2, bne]
          cases alnum c <;> simp
      · by_cases h45 : c = 45
        · subst h45
          have hb : (was == 46) = false := beq_eq_false_iff_ne.2 h
          simp only [hostStep, if_neg h, tailB, okc, hb, bne]
          simp
        · have hb2 : (c == 45) = false := beq_eq_false_iff_ne.2 h45
          simp only [hostStep, if_neg h, tailB, okc, hb1, hb2, bne]
          cases alnum c <;> simp
theorem hostL_labels (l : List UInt8) : hostL l = (splitL 46 l).all labelB := by
  unfold hostL
  rw [host_labels]
  cases h : splitL 46 l with
  | nil => exact absurd h (splitL_ne _ _)
  | cons p r => simp
end Go.Proofs.YtooaiamfbmjmnaaGreatDoor
