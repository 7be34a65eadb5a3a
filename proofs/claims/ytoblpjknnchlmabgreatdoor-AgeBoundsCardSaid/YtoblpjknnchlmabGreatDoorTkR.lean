/- A part of a list, trimmed: what it has to do with its word and with what stands behind it. -/
import Derived.Test.YtoblpjknnchlmabGreatDoorTkQ
import Derived.Lib.SlTrimSet
import Derived.Lib.Index
namespace Go.Proofs.YtoblpjknnchlmabGreatDoor

def trimW (p : List UInt8) : List UInt8 := ((p.dropWhile blankB).reverse.dropWhile blankB).reverse
theorem set_blank : (fun c : UInt8 => ([32, 9] : List UInt8).contains c) = blankB := by
  funext c
  unfold blankB
  simp
  rfl
/-- What stands ahead of the blanks at the end. -/
theorem trim_split (a : List UInt8) : ∃ br : List UInt8, a = (a.reverse.dropWhile blankB).reverse ++ br ∧ br.all blankB = true := by
  refine ⟨(a.reverse.takeWhile blankB).reverse, ?_, ?_⟩
  · rw [← List.reverse_append, List.takeWhile_append_dropWhile, List.reverse_reverse]
  · rw [List.all_reverse]
    exact List.all_takeWhile
theorem last_not (a : List UInt8) (h : (a.reverse.dropWhile blankB).reverse ≠ []) : ∃ (i : List UInt8) (c : UInt8), (a.reverse.dropWhile blankB).reverse = i ++ [c] ∧ blankB c = false := by
  cases e : a.reverse.dropWhile blankB with
  | nil => rw [e] at h; exact absurd rfl h
  | cons c t =>
    refine ⟨t.reverse, c, by simp, ?_⟩
    have := List.head_dropWhile_not (p := blankB) (l := a.reverse) (by rw [e]; simp)
    simp only [e, List.head_cons] at this
    simpa using this
theorem first_not (p : List UInt8) (c : UInt8) (t : List UInt8) (h : p.dropWhile blankB = c :: t) : blankB c = false := by
  have := List.head_dropWhile_not (p := blankB) (l := p) (by rw [h]; simp)
  simp only [h, List.head_cons] at this
  simpa using this
theorem dw_all (f : UInt8 → Bool) (l r : List UInt8) (h : l.all f = true) : (l ++ r).dropWhile f = r.dropWhile f := by
  induction l with
  | nil => rfl
  | cons c t ih =>
    rw [List.all_cons, Bool.and_eq_true] at h
    rw [List.cons_append, List.dropWhile_cons, if_pos h.1, ih h.2]
theorem dw_part (f : UInt8 → Bool) (l r : List UInt8) (h : l.all f = false) : (l ++ r).dropWhile f = l.dropWhile f ++ r := by
  induction l with
  | nil => simp at h
  | cons c t ih =>
    by_cases hc : f c = true
    · rw [List.all_cons, hc, Bool.true_and] at h
      rw [List.cons_append, List.dropWhile_cons, if_pos hc, ih h, List.dropWhile_cons, if_pos hc]
    · rw [List.cons_append, List.dropWhile_cons, if_neg hc, List.dropWhile_cons, if_neg hc]
      rfl
theorem rdrop_part (l r : List UInt8) (h : r.all blankB = false) : ((l ++ r).reverse.dropWhile blankB).reverse = l ++ (r.reverse.dropWhile blankB).reverse := by
  rw [List.reverse_append, dw_part blankB _ _ (by rw [List.all_reverse]; exact h), List.reverse_append, List.reverse_reverse]
theorem trimS_is (p : List UInt8) : Lib.trimS p [32, 9] = trimW p := by
  unfold Lib.trimS Lib.trimRightS Lib.trimLeftS trimW
  rw [set_blank]
  have hp : p = p.takeWhile blankB ++ p.dropWhile blankB := List.takeWhile_append_dropWhile.symm
  cases hd : p.dropWhile blankB with
  | nil =>
    have ha : p.all blankB = true := (dw_nil _ _).1 hd
    have : p.reverse.dropWhile blankB = [] := (dw_nil _ _).2 (by rw [List.all_reverse]; exact ha)
    rw [this]
    rfl
  | cons c t =>
    have hc := first_not p c t hd
    have hna : (c :: t).all blankB = false := by rw [List.all_cons, hc]; rfl
    have e1 : (p.reverse.dropWhile blankB).reverse = p.takeWhile blankB ++ ((c :: t).reverse.dropWhile blankB).reverse := by
      conv => lhs; rw [hp, hd]
      exact rdrop_part _ _ hna
    obtain ⟨br, e, hb⟩ := trim_split (c :: t)
    rw [e1, dw_all blankB _ _ List.all_takeWhile]
    cases hr : ((c :: t).reverse.dropWhile blankB).reverse with
    | nil =>
      rw [hr, List.nil_append] at e
      rw [← e, hna] at hb
      cases hb
    | cons d u =>
      rw [hr, List.cons_append, List.cons.injEq] at e
      rw [List.dropWhile_cons, ← e.1, hc]
      rfl
theorem tw_all (f : UInt8 → Bool) (l r : List UInt8) (h : l.all f = true) (hr : r.takeWhile f = []) : (l ++ r).takeWhile f = l := by
  rw [List.takeWhile_append_of_pos (by simpa [List.all_eq_true] using h), hr, List.append_nil]
theorem blank_no_tok (c : UInt8) (h : blankB c = true) : tokB c = false := by
  unfold blankB at h
  rcases Bool.or_eq_true _ _ ▸ h with h | h
  · rw [eq_of_beq h]; decide
  · rw [eq_of_beq h]; decide
theorem tok_no_blank (c : UInt8) (h : tokB c = true) : blankB c = false := by
  cases e : blankB c
  · rfl
  · rw [blank_no_tok c e] at h; cases h
theorem tw_blank (br : List UInt8) (h : br.all blankB = true) : br.takeWhile tokB = [] := by
  cases br with
  | nil => rfl
  | cons c t =>
    rw [List.all_cons, Bool.and_eq_true] at h
    rw [List.takeWhile_cons, blank_no_tok c h.1]
    rfl
theorem dw_blank_tok (br : List UInt8) (h : br.all blankB = true) : br.dropWhile tokB = br := by
  cases br with
  | nil => rfl
  | cons c t =>
    rw [List.all_cons, Bool.and_eq_true] at h
    rw [List.dropWhile_cons, blank_no_tok c h.1]
    rfl
theorem part_none (p : List UInt8) (h : trimW p = []) : restP p = [] ∧ wordP p = [] := by
  obtain ⟨br, e, hb⟩ := trim_split (p.dropWhile blankB)
  have h1 : (p.dropWhile blankB).reverse.dropWhile blankB = [] := by
    have := congrArg List.reverse h
    unfold trimW at this
    simpa using this
  rw [h1] at e
  simp only [List.reverse_nil, List.nil_append] at e
  unfold restP wordP
  cases hc : p.dropWhile blankB with
  | nil => exact ⟨rfl, rfl⟩
  | cons c t =>
    have hn := first_not p c t hc
    rw [hc] at e
    rw [← e, List.all_cons, hn] at hb
    cases hb
theorem part_word (p : List UInt8) (h : isL (trimW p) = true) : restP p = [] ∧ wordP p = trimW p := by
  obtain ⟨br, e, hb⟩ := trim_split (p.dropWhile blankB)
  have e2 : p.dropWhile blankB = trimW p ++ br := e
  unfold isL at h
  rw [Bool.and_eq_true] at h
  unfold restP wordP
  rw [e2]
  refine ⟨?_, tw_all tokB _ _ h.2 (tw_blank br hb)⟩
  rw [dw_all tokB _ _ h.2, dw_blank_tok br hb]
  exact (dw_nil _ _).2 hb
/-- How many bytes of the trimmed part are a word and the blanks behind it. -/
def badN (w : List UInt8) : Nat := if runL tokB w = 0 then 0 else runL tokB w + runL blankB (w.drop (runL tokB w))
theorem trimIndex_at (bl w br : List UInt8) (hb : bl.all blankB = true) (c : UInt8) (t : List UInt8) (hw : w = c :: t) (hc : blankB c = false) : Lib.index (bl ++ w ++ br) w = bl.length := by
  induction bl with
  | nil =>
    subst hw
    show Lib.index (c :: (t ++ br)) (c :: t) = 0
    rw [Lib.index, if_pos]
    rw [List.isPrefixOf_iff_prefix]
    exact ⟨br, rfl⟩
  | cons d r ih =>
    rw [List.all_cons, Bool.and_eq_true] at hb
    have ih := ih hb.2
    show Lib.index (d :: (r ++ w ++ br)) w = _
    rw [Lib.index, if_neg, ih, if_neg]
    · simp
    · simp
    · intro hp
      rw [hw, List.isPrefixOf_iff_prefix] at hp
      obtain ⟨z, hz⟩ := hp
      have : c = d := by
        have := congrArg List.head? hz
        simpa using this
      rw [this, hb.1] at hc
      cases hc
theorem part_bad (p : List UInt8) (h0 : trimW p ≠ []) (h : isL (trimW p) = false) : restP p ≠ [] ∧ p.length - (restP p).length = runL blankB p + badN (trimW p) ∧ Lib.index p (trimW p) = runL blankB p := by
  obtain ⟨br, e, hb⟩ := trim_split (p.dropWhile blankB)
  have e2 : p.dropWhile blankB = trimW p ++ br := e
  obtain ⟨i, cl, el, hcl⟩ := last_not (p.dropWhile blankB) h0
  have el2 : trimW p = i ++ [cl] := el
  have hnt : (trimW p).all tokB = false := by
    unfold isL at h
    cases ht : (trimW p).all tokB
    · rfl
    · rw [ht, Bool.and_true] at h
      have : (trimW p).isEmpty = true := by simpa using h
      exact absurd (List.isEmpty_iff.1 this) h0
  obtain ⟨c, t, hct⟩ : ∃ c t, trimW p = c :: t := by
    cases hh : trimW p with
    | nil => exact absurd hh h0
    | cons c t => exact ⟨c, t, rfl⟩
  have hc : blankB c = false := first_not p c (t ++ br) (by rw [e2, hct]; rfl)
  have hpl : p.length = runL blankB p + ((trimW p).length + br.length) := by
    have h1 := drop_runL blankB p
    have h2 := congrArg List.length h1
    rw [List.length_drop, e2, List.length_append] at h2
    have := runL_le blankB p
    omega
  have hdr : (trimW p).dropWhile tokB = (trimW p).drop (runL tokB (trimW p)) := (drop_runL _ _).symm
  have hlt : runL tokB (trimW p) < (trimW p).length := by
    have h1 := runL_le tokB (trimW p)
    rcases Nat.lt_or_ge (runL tokB (trimW p)) (trimW p).length with h2 | h2
    · exact h2
    · have : runL tokB (trimW p) = (trimW p).length := by omega
      rw [(runL_all _ _).1 this] at hnt
      cases hnt
  have hnb : ((trimW p).drop (runL tokB (trimW p))).all blankB = false := by
    cases hx : ((trimW p).drop (runL tokB (trimW p))).all blankB
    · rfl
    · have hm : cl ∈ (trimW p).drop (runL tokB (trimW p)) := by
        rw [el2] at hlt ⊢
        rw [List.drop_append_of_le_length (by simp at hlt; omega)]
        simp
      have := List.all_eq_true.1 hx cl hm
      rw [hcl] at this
      cases this
  have hrest : restP p = (trimW p).drop (runL tokB (trimW p) + runL blankB ((trimW p).drop (runL tokB (trimW p)))) ++ br := by
    unfold restP
    rw [e2, dw_part tokB _ _ hnt, hdr, dw_part blankB _ _ hnb, ← drop_runL, List.drop_drop]
  have hn2 : runL blankB ((trimW p).drop (runL tokB (trimW p))) < ((trimW p).drop (runL tokB (trimW p))).length := by
    have h1 := runL_le blankB ((trimW p).drop (runL tokB (trimW p)))
    rcases Nat.lt_or_ge (runL blankB ((trimW p).drop (runL tokB (trimW p)))) ((trimW p).drop (runL tokB (trimW p))).length with h2 | h2
    · exact h2
    · rw [(runL_all _ _).1 (by omega)] at hnb
      cases hnb
  rw [List.length_drop] at hn2
  have hbad : badN (trimW p) = runL tokB (trimW p) + runL blankB ((trimW p).drop (runL tokB (trimW p))) := by
    unfold badN
    split
    · rename_i hz
      rw [hz, List.drop_zero, hct]
      have : runL blankB (c :: t) = 0 := by
        unfold runL
        rw [List.takeWhile_cons, hc]
        rfl
      rw [this]
    · rfl
  refine ⟨?_, ?_, ?_⟩
  · rw [hrest]
    intro hx
    have := congrArg List.length hx
    simp at this
    omega
  · rw [hrest, List.length_append, List.length_drop, hbad]
    omega
  · have hp : p = p.takeWhile blankB ++ trimW p ++ br := by
      rw [List.append_assoc, ← e2, List.takeWhile_append_dropWhile]
    have := trimIndex_at (p.takeWhile blankB) (trimW p) br List.all_takeWhile c t hct hc
    rw [← hp] at this
    rw [this]
    rfl
theorem part_size (d : UInt8) : ∀ (l : List UInt8) (p : List UInt8), p ∈ splitL d l → p.length ≤ l.length
  | [], p, h => by
    have : p = [] := by simpa [splitL] using h
    rw [this]
    exact Nat.le_refl _
  | c :: t, p, h => by
    rw [splitL] at h
    split at h
    · rcases List.mem_cons.1 h with rfl | h
      · simp
      · have := part_size d t p h
        simp
        omega
    · cases e : splitL d t with
      | nil =>
        rw [e] at h
        have : p = [c] := by simpa using h
        rw [this]
        simp
      | cons q r =>
        rw [e] at h
        rcases List.mem_cons.1 h with rfl | h
        · have := part_size d t q (by rw [e]; simp)
          simp
          omega
        · have := part_size d t p (by rw [e]; simp [h])
          simp
          omega
theorem trim_length (p : List UInt8) : (trimW p).length ≤ p.length := by
  unfold trimW
  rw [List.length_reverse]
  refine Nat.le_trans (List.dropWhile_sublist _).length_le ?_
  rw [List.length_reverse]
  exact (List.dropWhile_sublist _).length_le
end Go.Proofs.YtoblpjknnchlmabGreatDoor
