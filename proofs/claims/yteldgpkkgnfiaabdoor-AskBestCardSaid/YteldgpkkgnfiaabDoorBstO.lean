/- None is stronger than the best, in whatever order. -/
import Derived.Test.YteldgpkkgnfiaabDoorBst
namespace Go.Proofs.YteldgpkkgnfiaabDoor

theorem fold_ge : ∀ (xs : List Chal) (b : AskV), b.scheme ≤ (xs.foldl betterV b).scheme ∧ ∀ x ∈ xs, (knownV x).scheme ≤ (xs.foldl betterV b).scheme
  | [], b => ⟨Nat.le_refl _, fun x hx => by cases hx⟩
  | y :: r, b => by
    have h := fold_ge r (betterV b y)
    have h1 : b.scheme ≤ (betterV b y).scheme ∧ (knownV y).scheme ≤ (betterV b y).scheme := by
      unfold betterV
      split
      · omega
      · omega
    rw [List.foldl_cons]
    refine ⟨by omega, fun x hx => ?_⟩
    rcases List.mem_cons.1 hx with rfl | hx
    · omega
    · exact h.2 x hx
theorem fold_mem : ∀ (xs : List Chal) (b : AskV), xs.foldl betterV b = b ∨ ∃ x ∈ xs, xs.foldl betterV b = knownV x
  | [], b => .inl rfl
  | y :: r, b => by
    rw [List.foldl_cons]
    rcases fold_mem r (betterV b y) with h | ⟨x, hx, h⟩
    · rw [h]
      unfold betterV
      split
      · exact .inr ⟨y, by simp, rfl⟩
      · exact .inl rfl
    · exact .inr ⟨x, by simp [hx], h⟩
theorem best_ge {xs : List Chal} {x : Chal} (h : x ∈ xs) : (knownV x).scheme ≤ (bestL xs).scheme := (fold_ge xs zeroA).2 x h
theorem best_mem {xs : List Chal} (h : 0 < (bestL xs).scheme) : ∃ x ∈ xs, bestL xs = knownV x := by
  rcases fold_mem xs zeroA with e | e
  · unfold bestL at h
    rw [e] at h
    exact absurd h (by decide)
  · exact e
theorem best_sub {xs ys : List Chal} (h : ∀ x ∈ xs, x ∈ ys) : (bestL xs).scheme ≤ (bestL ys).scheme := by
  rcases Nat.eq_zero_or_pos (bestL xs).scheme with e | e
  · omega
  · obtain ⟨x, hx, e⟩ := best_mem e
    rw [e]
    exact best_ge (h x hx)
theorem best_rev (xs : List Chal) : (bestL xs.reverse).scheme = (bestL xs).scheme :=
  Nat.le_antisymm (best_sub fun _ hx => List.mem_reverse.1 hx) (best_sub fun _ hx => List.mem_reverse.2 hx)
theorem known_pos (x : Chal) : (knownL x).isSome = decide (0 < (knownV x).scheme) := by
  unfold knownV
  rcases h : knownL x with _ | a
  · rfl
  · have := (known_le x a h).1
    show true = decide (0 < a.scheme)
    rw [decide_eq_true (by omega)]
/-- What is asked is the best's. -/
def hitB (B : AskV) (x : Chal) : Bool := (knownL x).isSome && decide ((knownV x).scheme = B.scheme) && ((knownV x).realm.toList == B.realm.toList) && ((knownV x).nonce.toList == B.nonce.toList)
theorem hit_any (xs : List Chal) : xs.any (hitB (bestL xs)) = decide (0 < (bestL xs).scheme) := by
  by_cases h : 0 < (bestL xs).scheme
  · rw [decide_eq_true h]
    obtain ⟨x, hx, e⟩ := best_mem h
    refine List.any_eq_true.2 ⟨x, hx, ?_⟩
    unfold hitB
    rw [known_pos, ← e, decide_eq_true h]
    simp
  · rw [decide_eq_false h]
    refine List.any_eq_false.2 fun x hx => ?_
    have := best_ge hx
    unfold hitB
    rw [known_pos, decide_eq_false (by omega)]
    simp
theorem any_take {α : Type} {f : α → Bool} {xs : List α} {k : Nat} {x : α} (h : xs[k]? = some x) : (xs.take (k + 1)).any f = ((xs.take k).any f || f x) := by
  obtain ⟨hk, e⟩ := List.getElem?_eq_some_iff.1 h
  rw [List.take_succ_eq_append_getElem hk, List.any_append, e]
  simp
end Go.Proofs.YteldgpkkgnfiaabDoor
