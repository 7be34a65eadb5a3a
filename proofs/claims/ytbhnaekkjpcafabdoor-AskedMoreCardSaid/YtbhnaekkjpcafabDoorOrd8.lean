/- What must be asked for, as lists: rising, each once, in small letters; in whichever order. -/
import Derived.Test.YtbhnaekkjpcafabDoorAskd8
namespace Go.Proofs.YtbhnaekkjpcafabDoor
open Go.RowKit

theorem lt_of_le_ne8 {a b : List UInt8} (h : a ≤ b) (hne : a ≠ b) : a < b := by
  rcases Decidable.em (a < b) with h1 | h1
  · exact h1
  · exact absurd (List.le_antisymm h (List.not_lt.1 h1)) hne
theorem compact_rises (ss : List (List UInt8)) (hs : ss.Pairwise fun a b => a ≤ b) : ∀ m, m ≤ ss.length → (Lib.compactUpTo ss.toArray m).Pairwise (fun a b => a < b) ∧ ∀ x ∈ Lib.compactUpTo ss.toArray m, ∀ z, ss[m - 1]? = some z → x = z ∨ x < z
  | 0, _ => by
    unfold Lib.compactUpTo
    simp
  | m + 1, hm => by
    obtain ⟨h1, h2⟩ := compact_rises ss hs m (by omega)
    have hml : m < ss.length := by omega
    have em : ss.toArray[m]! = ss[m] := by simp [getElem!_pos, hml]
    rw [Lib.compactUpTo_succ]
    by_cases h0 : m = 0
    · subst h0
      have e0 : Lib.compactUpTo ss.toArray 0 = [] := by unfold Lib.compactUpTo; simp
      rw [e0, if_pos (by simp [Lib.keeps]), em]
      refine ⟨by simp, fun x hx z hz => ?_⟩
      have hz' : ss[0]? = some z := by simpa using hz
      obtain ⟨_, e⟩ := List.getElem?_eq_some_iff.1 hz'
      exact .inl ((show x = ss[0] by simpa using hx).trans e)
    · have em1 : ss.toArray[m - 1]! = ss[m - 1] := by simp [getElem!_pos, show m - 1 < ss.length by omega]
      have hle : ss[m - 1] ≤ ss[m] := List.pairwise_iff_getElem.1 hs (m - 1) m (by omega) hml (by omega)
      by_cases he : ss[m] = ss[m - 1]
      · rw [if_neg (by unfold Lib.keeps; rw [em, em1]; simp [h0, he])]
        simp only [List.append_nil]
        refine ⟨h1, fun x hx z hz => ?_⟩
        have hz' : ss[m]? = some z := by simpa using hz
        obtain ⟨_, e⟩ := List.getElem?_eq_some_iff.1 hz'
        rw [← e, he]
        exact h2 x hx _ (List.getElem?_eq_getElem (by omega))
      · have hlt : ss[m - 1] < ss[m] := lt_of_le_ne8 hle (fun e => he e.symm)
        rw [if_pos (by unfold Lib.keeps; rw [em, em1]; simp [he]), em]
        have hall : ∀ x ∈ Lib.compactUpTo ss.toArray m, x < ss[m] := fun x hx => by
          rcases h2 x hx _ (List.getElem?_eq_getElem (show m - 1 < ss.length by omega)) with e | e
          · rw [e]; exact hlt
          · exact List.lt_trans e hlt
        refine ⟨?_, fun x hx z hz => ?_⟩
        · rw [List.pairwise_append]
          exact ⟨h1, by simp, fun a ha b hb => by rw [List.mem_singleton.1 hb]; exact hall a ha⟩
        · have hz' : ss[m]? = some z := by simpa using hz
          obtain ⟨_, e⟩ := List.getElem?_eq_some_iff.1 hz'
          rw [← e]
          rcases List.mem_append.1 hx with h | h
          · exact .inr (hall x h)
          · exact .inl (List.mem_singleton.1 h)
theorem compact_mem (ss : List (List UInt8)) (x : List UInt8) (h : x ∈ Lib.compact ss) : x ∈ ss := by
  unfold Lib.compact Lib.compactUpTo at h
  obtain ⟨j, hj, rfl⟩ := List.mem_map.1 h
  have hj1 := List.mem_range.1 (List.mem_filter.1 hj).1
  rw [show ss.toArray[j]! = ss[j] by simp [getElem!_pos, hj1]]
  exact List.getElem_mem hj1
/-- The names that must be asked for, as lists. -/
def askT (ps : List Par) : List (List UInt8) := Lib.compact (sortL (tx (askedNames ps)))
theorem askedL_is (ps : List Par) : askedL ps = (askT ps).map bs := rfl
theorem askT_rises (ps : List Par) : (askT ps).Pairwise fun a b => a < b := by
  have := (compact_rises (sortL (tx (askedNames ps))) (sortL_sorted _) _ (Nat.le_refl _)).1
  exact this
theorem askT_next (ps : List Par) (k : Nat) (x y : List UInt8) (hx : (askT ps)[k]? = some x) (hy : (askT ps)[k + 1]? = some y) : x < y := by
  obtain ⟨h1, e1⟩ := List.getElem?_eq_some_iff.1 hx
  obtain ⟨h2, e2⟩ := List.getElem?_eq_some_iff.1 hy
  rw [← e1, ← e2]
  exact List.pairwise_iff_getElem.1 (askT_rises ps) k (k + 1) h1 h2 (by omega)
theorem low8_low : ∀ c : UInt8, low (low c) = low c := by
  intro c
  have : ∀ n : Fin 256, low (low (UInt8.ofNat n.1)) = low (UInt8.ofNat n.1) := by decide +kernel
  have h := this ⟨c.toNat, c.toNat_lt⟩
  simpa using h
theorem askT_from (ps : List Par) (x : List UInt8) (h : x ∈ askT ps) : ∃ p ∈ ps, x = p.1.data.toList.map low := by
  have h1 := compact_mem _ x h
  have h2 := (sortL_perm _).mem_iff.1 h1
  unfold tx at h2
  obtain ⟨b, hb, rfl⟩ := List.mem_map.1 h2
  have h3 : ∃ p ∈ ps, b = lowN p := by
    unfold askedNames notPlain arePlain at hb
    split at hb
    · rcases List.mem_append.1 hb with h | h
      · obtain ⟨p, hp, e⟩ := List.mem_map.1 h; exact ⟨p, (List.mem_filter.1 hp).1, e.symm⟩
      · obtain ⟨p, hp, e⟩ := List.mem_map.1 h; exact ⟨p, (List.mem_filter.1 hp).1, e.symm⟩
    · obtain ⟨p, hp, e⟩ := List.mem_map.1 hb; exact ⟨p, (List.mem_filter.1 hp).1, e.symm⟩
  obtain ⟨p, hp, rfl⟩ := h3
  exact ⟨p, hp, by unfold lowN; rw [bs_data]⟩
theorem askT_low (ps : List Par) (x : List UInt8) (h : x ∈ askT ps) : x.map low = x := by
  obtain ⟨p, _, rfl⟩ := askT_from ps x h
  rw [List.map_map]
  apply List.map_congr_left
  intro c _
  exact low8_low c
theorem askT_size (ps : List Par) (hs : Small8 ps) (x : List UInt8) (h : x ∈ askT ps) : (bs x).size ≤ 3000 := by
  obtain ⟨p, hp, rfl⟩ := askT_from ps x h
  rw [bs_size, List.length_map]
  have e : p.1.data.toList.length = p.1.size := Array.length_toList
  have := (hs p hp).1
  omega
theorem together_rev (ps : List Par) : together ps.reverse = together ps := by
  unfold together
  rw [List.filter_reverse, List.map_reverse, List.sum_reverse]
theorem askedL_rev (ps : List Par) : askedL ps.reverse = askedL ps := by
  unfold askedL
  congr 2
  apply sortL_of_perm
  unfold tx
  apply List.Perm.map
  unfold askedNames
  rw [together_rev]
  have h1 : (notPlain ps.reverse).Perm (notPlain ps) := by
    unfold notPlain
    rw [List.filter_reverse, List.map_reverse]
    exact List.reverse_perm _
  have h2 : (arePlain ps.reverse).Perm (arePlain ps) := by
    unfold arePlain
    rw [List.filter_reverse, List.map_reverse]
    exact List.reverse_perm _
  split
  · exact h1.append h2
  · exact h1
theorem not_leq (x y : List UInt8) (h : x < y) : (Op.bytesLess y x || y == x) = false := by
  rw [bytesLess_eq]
  have h1 : ¬ y < x := fun h2 => List.lt_irrefl x (List.lt_trans h h2)
  have h2 : y ≠ x := fun e => List.lt_irrefl x (by rw [e] at h; exact h)
  rw [decide_eq_false h1, beq_eq_false_iff_ne.2 h2]
  rfl
theorem asked_len (ps : List Par) : (askedL ps).length ≤ ps.length := by
  unfold askedL
  rw [List.length_map]
  have h1 := compact_len (sortL (tx (askedNames ps)))
  have h2 : (tx (askedNames ps)).length = (askedNames ps).length := by unfold tx; simp
  rw [sortL_len, h2] at h1
  have h3 := lens_le ps
  have h4 : (askedNames ps).length ≤ ps.length := by
    unfold askedNames
    split
    · rw [List.length_append]; omega
    · omega
  omega
end Go.Proofs.YtbhnaekkjpcafabDoor
