/- How long a clean path is. -/
import Derived.Test.YtpbipanafihabaaDoorSplO
import Derived.Test.YtpbipanafihabaaDoorCleanQ
namespace Go.Proofs.YtpbipanafihabaaDoor
open Go.RowKit Go.Shelf

theorem flat_cons (p : List UInt8) (ps : List (List UInt8)) : (flat (p :: ps)).length = p.length + 1 + (flat ps).length := by
  simp [flat]
  omega
theorem flat_app (a b : List (List UInt8)) : (flat (a ++ b)).length = (flat a).length + (flat b).length := by simp [flat]
theorem flat_split : ∀ l : List UInt8, (flat (splitL 47 l)).length = l.length + 1
  | [] => rfl
  | c :: t => by
    have ih := flat_split t
    rw [splitL]
    split
    · rw [flat_cons, ih]
      simp
      omega
    · cases e : splitL 47 t with
      | nil => exact absurd e (splitL_ne 47 t)
      | cons p r =>
        rw [e] at ih
        dsimp only
        rw [flat_cons] at ih ⊢
        simp
        omega
theorem flat_drop (a : List (List UInt8)) : (flat a.dropLast).length ≤ (flat a).length := by
  rcases List.eq_nil_or_concat a with rfl | ⟨l, x, rfl⟩
  · exact Nat.le_refl _
  · rw [List.concat_eq_append, List.dropLast_concat, flat_app]
    omega
theorem flat_step (last : Bool) (acc : List (List UInt8)) (p : List UInt8) : (flat (cleanStep last acc p)).length ≤ (flat acc).length + p.length + 1 := by
  have hd := flat_drop acc
  have h1 : (flat [[]]).length = 1 := rfl
  unfold cleanStep
  split
  · split
    · rw [flat_app, h1]
      omega
    · omega
  · split
    · split
      · rw [flat_app, h1]
        omega
      · omega
    · rw [flat_app, flat_cons]
      show _ + (_ + 0) ≤ _
      omega
theorem flat_parts : ∀ (ps acc : List (List UInt8)), (flat (cleanParts acc ps)).length ≤ (flat acc).length + (flat ps).length
  | [], acc => by rw [cleanParts]; omega
  | p :: r, acc => by
    rw [cleanParts, flat_cons]
    have := flat_parts r (cleanStep r.isEmpty acc p)
    have := flat_step r.isEmpty acc p
    omega
theorem cleanL_length (s : List UInt8) : (cleanL s).length ≤ s.length + 1 := by
  unfold cleanL
  rw [← flat_join _ (cleanParts_ne _ _ (splitL_ne 47 _))]
  have h1 := flat_parts (splitL 47 (bodyL s)) []
  rw [flat_split] at h1
  have h2 : (flat []).length = 0 := rfl
  have h3 : (bodyL s).length ≤ s.length := by
    unfold bodyL
    split
    · simp
    · exact Nat.le_refl _
  omega
end Go.Proofs.YtpbipanafihabaaDoor
