/- One header more: no fewer must be asked for; rows of parameters cloned, and one more. -/
import Derived.Test.YtbhnaekkjpcafabDoorOrd8
import Derived.Test.YtbhnaekkjpcafabDoorRwP
namespace Go.Proofs.YtbhnaekkjpcafabDoor
open Go.RowKit

theorem kept_mem (ss : List (List UInt8)) : ∀ (m j : Nat) (x : List UInt8), j < m → m ≤ ss.length → ss[j]? = some x → x ∈ Lib.compactUpTo ss.toArray m
  | 0, j, x, h, _, _ => absurd h (by omega)
  | m + 1, j, x, hj, hm, hx => by
    rw [Lib.compactUpTo_succ, List.mem_append]
    by_cases hjm : j < m
    · exact .inl (kept_mem ss m j x hjm (by omega) hx)
    · obtain rfl : j = m := by omega
      obtain ⟨h1, e1⟩ := List.getElem?_eq_some_iff.1 hx
      have em : ss.toArray[j]! = x := by simp [getElem!_pos, h1, e1]
      by_cases hk : Lib.keeps ss.toArray j = true
      · exact .inr (by rw [if_pos hk, em]; simp)
      · have hj0 : j ≠ 0 := fun e => hk (by unfold Lib.keeps; simp [e])
        have he : ss.toArray[j]! = ss.toArray[j - 1]! := by
          rcases Decidable.em (ss.toArray[j]! = ss.toArray[j - 1]!) with e | e
          · exact e
          · exact absurd (by unfold Lib.keeps; exact decide_eq_true (.inr e)) hk
        have hy : ss[j - 1]? = some x := by
          rw [List.getElem?_eq_getElem (show j - 1 < ss.length by omega)]
          congr 1
          rw [← em, he]
          simp [getElem!_pos, show j - 1 < ss.length by omega]
        exact .inl (kept_mem ss j (j - 1) x (by omega) (by omega) hy)
theorem askedL_mem (ps : List Par) (x : ByteArray) : x ∈ askedL ps ↔ x ∈ askedNames ps := by
  constructor
  · intro h
    rw [askedL_is] at h
    obtain ⟨l, hl, rfl⟩ := List.mem_map.1 h
    have h2 := (sortL_perm _).mem_iff.1 (compact_mem _ l hl)
    unfold tx at h2
    obtain ⟨b, hb, rfl⟩ := List.mem_map.1 h2
    rw [bs_self]
    exact hb
  · intro h
    have h1 : x.data.toList ∈ sortL (tx (askedNames ps)) := (sortL_perm _).mem_iff.2 (List.mem_map.2 ⟨x, h, rfl⟩)
    obtain ⟨j, hj⟩ := List.mem_iff_getElem?.1 h1
    have h2 := kept_mem _ _ j _ (List.getElem?_eq_some_iff.1 hj).1 (Nat.le_refl _) hj
    rw [askedL_is]
    exact List.mem_map.2 ⟨_, h2, bs_self x⟩
theorem notPlain_app (ps : List Par) (p : Par) : notPlain (ps ++ [p]) = notPlain ps ++ notPlain [p] := by unfold notPlain; rw [List.filter_append, List.map_append]
theorem arePlain_app (ps : List Par) (p : Par) : arePlain (ps ++ [p]) = arePlain ps ++ arePlain [p] := by unfold arePlain; rw [List.filter_append, List.map_append]
theorem together_app (ps : List Par) (p : Par) : together ps ≤ together (ps ++ [p]) := by
  unfold together
  rw [List.filter_append, List.map_append, List.sum_append]
  omega
theorem asked_more (ps : List Par) (p : Par) (x : ByteArray) (h : x ∈ askedL ps) : x ∈ askedL (ps ++ [p]) := by
  rw [askedL_mem] at h ⊢
  have ht := together_app ps p
  unfold askedNames at h ⊢
  rw [notPlain_app, arePlain_app]
  split at h
  · rw [if_pos (by omega)]
    rcases List.mem_append.1 h with h | h
    · simp [h]
    · simp [h]
  · split
    · simp [h]
    · simp [h]
theorem asked_self (ps : List Par) (p : Par) (hp : plain8 p = false) : lowN p ∈ askedL (ps ++ [p]) := by
  rw [askedL_mem]
  have h : lowN p ∈ notPlain (ps ++ [p]) := by
    rw [notPlain_app]
    refine List.mem_append.2 (.inr ?_)
    unfold notPlain
    rw [List.filter_cons_of_pos (by simp [hp])]
    simp
  unfold askedNames
  split
  · exact List.mem_append.2 (.inl h)
  · exact h
theorem wp_appq {o : Oper} {a : Act} {K : Act → World → Prop} {Q : Exit → Act → World → Prop} (s x : Operand)
    (ho : o.op = .call { callee := .builtin .append, args := #[s, x], argTypes := #[22, 22] })
    (B : Nat) (W : World) (v : Value) (ps : List Par) (hs : a.eval s = v) (hown : OwnP W B v ps) (hl : ps.length ≤ 100000) (hB : B ≤ W.heap.size)
    (p : Par) (bx : Nat) (hx : a.eval x = .slice (some ⟨bx, 0, none⟩) 1 1) (c0 : W.cell? ⟨bx, 0, none⟩ = some (.string p.1)) (c1 : W.cell? ⟨bx, 1, none⟩ = some (.string p.2))
    (h : ∀ g cap w', OwnP w' B (.slice (some ⟨g, 0, none⟩) (ps.length + 1) cap) (ps ++ [p]) → Below B W w' → K (a.put o.dst (.slice (some ⟨g, 0, none⟩) (ps.length + 1) cap)) w') :
    Oper.wp Tryd.prog o a W K Q := by
  obtain ⟨i0, hi0, hz0, hz1, hz2⟩ := info_parts infoP
  refine wp_append_lies W s x 22 ho B 24 i0 (.agg #[.string ⟨#[]⟩, .string ⟨#[]⟩]) 2 32 Tryd.underlying22 hi0 hz0 hz1 hz2 rfl (by omega) v ps.length _ hs hown ⟨bx, 0, none⟩ 1 1 [.string p.1, .string p.2] hx rfl
    (fun j u hj => ?_) (by simp [Value.oneCell']) (by omega) (by unfold maxLen; omega) (by omega) hB _ rfl ?_
  · rw [WideShapes.add_plain]
    match j, hj with
    | 0, hj => cases hj; exact c0
    | 1, hj => cases hj; exact c1
    | j + 2, hj => simp at hj
  · intro g cap w' hown1 hgrow _ hlt
    refine h g cap w' ?_ ((Below.refl B W).grown hgrow hB (fun k hk => (hown.lt k hk).1))
    unfold OwnP
    rw [List.length_append, parCells_app]
    exact hown1
theorem cloneP_own (ps : List Par) (a0 : Option Addr) (len cap b off : Nat) (hlen : len ≤ 1000) (w : World) (hx : Pars w a0 len b off ps) :
    Calls Tryd.prog 9 #[.slice a0 len cap] w fun e w' => (∃ v, e = .returned v ∧ OwnP w' w.heap.size v ps) ∧ Below w.heap.size w w' := by
  rcases Nat.eq_zero_or_pos len with h0 | h0
  · subst h0
    obtain rfl : ps = [] := List.eq_nil_of_length_eq_zero hx.len_eq
    have h1 := sliceNilP
    have h2 := sliceNoneP
    clear hx
    cases a0 with
    | none =>
      go_enter Tryd.func9, Tryd.ntmps9
      go_wp2
      go_ret
      exact ⟨⟨_, rfl, ownP_nil _ _⟩, Below.refl _ _⟩
    | some p =>
      go_enter Tryd.func9, Tryd.ntmps9
      go_wp2
      go_ret
      exact ⟨⟨_, rfl, ⟨rfl, .inr ⟨w.heap.size, 0, #[], rfl, Nat.le_refl _, heap_alloc_new w _, Nat.le_refl _, Nat.zero_le _, rfl, rfl⟩⟩⟩, (Below.refl _ _).alloc (Nat.le_refl _) _⟩
  · have hl := hx.len_eq
    refine (cloneP_any ps a0 len cap b off hlen w hx h0).mono ?_
    rintro e w' ⟨⟨g, cap', rfl, hown⟩, hb⟩
    refine ⟨⟨_, rfl, ?_⟩, hb⟩
    unfold OwnP
    rw [hl]
    exact hown
end Go.Proofs.YtbhnaekkjpcafabDoor
