/- A URL's text parted as the document's own answer parts it: the same, told as a list of bytes. -/
import Derived.Test.YtpbipanafihabaaDoorPrsQ
import Derived.Test.YtpbipanafihabaaDoorOrgQ
namespace Go.Proofs.YtpbipanafihabaaDoor
open Go.RowKit

theorem take_len {l : List UInt8} {n : Nat} {m : List UInt8} (h : (l.take n).map low = m) (hm : m.length = n) : n ≤ l.length := by
  have := congrArg List.length h
  rw [List.length_map, List.length_take] at this
  omega
theorem scheme_ext {a : List UInt8} (b : List UInt8) {sec : Bool} {r : List UInt8} (h : schemeL a = some (sec, r)) : schemeL (a ++ b) = some (sec, r ++ b) := by
  unfold schemeL at h
  split at h
  · rename_i hA
    have hl := take_len hA rfl
    simp only [Option.some.injEq, Prod.mk.injEq] at h
    obtain ⟨rfl, rfl⟩ := h
    unfold schemeL
    rw [List.take_append_of_le_length hl, if_pos hA, List.drop_append_of_le_length hl]
  · rename_i hA
    split at h
    · rename_i hB
      have hl := take_len hB rfl
      simp only [Option.some.injEq, Prod.mk.injEq] at h
      obtain ⟨rfl, rfl⟩ := h
      unfold schemeL
      rw [List.take_append_of_le_length (Nat.le_trans (by decide) hl), if_neg hA, List.take_append_of_le_length hl, if_pos hB, List.drop_append_of_le_length hl]
    · cases h
theorem scheme_pre (a b : List UInt8) (h : schemeL (a ++ b) = none) : schemeL a = none := by
  cases hs : schemeL a with
  | none => rfl
  | some x =>
    obtain ⟨sec, r⟩ := x
    rw [scheme_ext b hs] at h
    cases h
theorem scheme_parts {t : List UInt8} {sec : Bool} {k : Nat} (h : schemeL t = some (sec, t.drop k)) (hk : k ≤ t.length) : (k = 7 ∧ sec = false ∧ (t.take 7).map low = httpL) ∨ (k = 8 ∧ sec = true ∧ (t.take 7).map low ≠ httpL ∧ (t.take 8).map low = httpsL) := by
  unfold schemeL at h
  split at h
  · rename_i hA
    have hl := take_len hA rfl
    simp only [Option.some.injEq, Prod.mk.injEq] at h
    have hz := congrArg List.length h.2
    rw [List.length_drop, List.length_drop] at hz
    exact .inl ⟨by have : httpL.length = 7 := rfl; omega, h.1.symm, hA⟩
  · rename_i hA
    split at h
    · rename_i hB
      have hl := take_len hB rfl
      simp only [Option.some.injEq, Prod.mk.injEq] at h
      have hz := congrArg List.length h.2
      rw [List.length_drop, List.length_drop] at hz
      exact .inr ⟨by omega, h.1.symm, hA, hB⟩
    · cases h
theorem scheme_take {t : List UInt8} {sec : Bool} {k E : Nat} (h : schemeL t = some (sec, t.drop k)) (hk : k ≤ E) (hE : E ≤ t.length) : schemeL (t.take E) = some (sec, (t.take E).drop k) := by
  rcases scheme_parts h (Nat.le_trans hk hE) with ⟨rfl, rfl, hA⟩ | ⟨rfl, rfl, hA, hB⟩
  · unfold schemeL
    rw [List.take_take, Nat.min_eq_left hk, if_pos hA]
  · unfold schemeL
    rw [List.take_take, Nat.min_eq_left (Nat.le_trans (by decide) hk), if_neg hA, List.take_take, Nat.min_eq_left hk, if_pos hB]
theorem scheme_no63 {t : List UInt8} {sec : Bool} {k : Nat} (h : schemeL t = some (sec, t.drop k)) (hk : k ≤ t.length) : (63 : UInt8) ∉ t.take k := fun hm => by
  rcases scheme_parts h hk with ⟨rfl, _, hA⟩ | ⟨rfl, _, _, hB⟩
  · have := List.mem_map_of_mem (f := low) hm
    rw [hA] at this
    exact absurd this (by decide)
  · have := List.mem_map_of_mem (f := low) hm
    rw [hB] at this
    exact absurd this (by decide)
theorem cutL_app (c : UInt8) (v : List UInt8) : ∀ u, c ∉ u → cutL c (u ++ v) = (u ++ (cutL c v).1, (cutL c v).2)
  | [], _ => rfl
  | b :: u, h => by
    have hb : b ≠ c := fun e => h (by rw [e]; exact List.mem_cons_self)
    rw [List.cons_append, cutL, if_neg (by simpa using hb), cutL_app c v u (fun hm => h (List.mem_cons_of_mem _ hm))]
    rfl
theorem cutL_pre (c : UInt8) : ∀ l, ∃ r, l = (cutL c l).1 ++ r
  | [] => ⟨[], rfl⟩
  | b :: l => by
    obtain ⟨r, hr⟩ := cutL_pre c l
    rw [cutL]
    split
    · exact ⟨b :: l, rfl⟩
    · exact ⟨r, by dsimp only; rw [List.cons_append, ← hr]⟩
theorem parse_none {l t x : List UInt8} {f : Bool} (h1 : cutL 35 l = (t, x, f)) (hs : schemeL t = none) : parseL l = .inl 3 := by
  obtain ⟨r, hr⟩ := cutL_pre 63 t
  exact parse_scheme (q := (cutL 63 t).2.1) (g := (cutL 63 t).2.2) h1 rfl (scheme_pre _ r (hr ▸ hs))
theorem origin_none_take {t : List UInt8} (E : Nat) (hs : schemeL t = none) : originP (t.take E) = none := originP_none (scheme_pre (t.take E) (t.drop E) (by rw [List.take_append_drop]; exact hs))
theorem parse_ref {l t x p0 q : List UInt8} {f g sec : Bool} {k E : Nat} (h1 : cutL 35 l = (t, x, f)) (hs : schemeL t = some (sec, t.drop k)) (hk : k ≤ E) (hE : E ≤ t.length) (hm : ∀ c ∈ (t.take E).drop k, c ≠ 47 ∧ c ≠ 63)
    (hend : t.drop E = [] ∨ ∃ c r, t.drop E = c :: r ∧ (c = 47 ∨ c = 63)) (hq : cutL 63 (t.drop E) = (p0, q, g)) :
    (originL sec ((t.take E).drop k) = none → parseL l = .inl 3) ∧ ∀ h n, originL sec ((t.take E).drop k) = some (h, n) → parseL l = if sendL p0 && sendL q then (if (cleanL p0).length ≤ 200 then .inr (sec, h, n, cleanL p0, q) else .inl 2) else .inl 3 := by
  have hn : (63 : UInt8) ∉ t.take E := by
    rw [← List.take_append_drop k (t.take E), List.take_take, Nat.min_eq_left hk]
    intro h
    rcases List.mem_append.1 h with h | h
    · exact scheme_no63 hs (Nat.le_trans hk hE) h
    · exact (hm _ h).2 rfl
  have h2 : cutL 63 t = (t.take E ++ p0, q, g) := by
    have := cutL_app 63 (t.drop E) (t.take E) hn
    rw [List.take_append_drop, hq] at this
    exact this
  have h3 := scheme_ext p0 (scheme_take hs hk hE)
  have hp : (cutL 47 p0).1 = [] := by
    rcases hend with e | ⟨c, r, e, rfl | rfl⟩
    · rw [e] at hq
      simp only [cutL, Prod.mk.injEq] at hq
      rw [← hq.1]
      rfl
    · rw [e, cutL, if_neg (by decide)] at hq
      simp only [Prod.mk.injEq] at hq
      rw [← hq.1, cutL, if_pos (by decide)]
    · rw [e, cutL, if_pos (by decide)] at hq
      simp only [Prod.mk.injEq] at hq
      rw [← hq.1]
      rfl
  have h4 : cutL 47 ((t.take E).drop k ++ p0) = ((t.take E).drop k, (cutL 47 p0).2.1, (cutL 47 p0).2.2) := by
    rw [cutL_app 47 p0 _ (fun h => (hm _ h).1 rfl), hp, List.append_nil]
  refine ⟨parse_origin h1 h2 h3 h4, fun h n ho => ?_⟩
  have := parse_rest h1 h2 h3 h4 ho
  rw [List.drop_left] at this
  exact this
/-- The first part of a text that is parted at a byte is what stands ahead of that byte. -/
theorem split_head (c : UInt8) : ∀ l, ∃ r, splitL c l = (cutL c l).1 :: r
  | [] => ⟨[], rfl⟩
  | b :: l => by
    obtain ⟨r, hr⟩ := split_head c l
    rw [splitL, cutL]
    split
    · exact ⟨_, rfl⟩
    · rw [hr]; exact ⟨_, rfl⟩
end Go.Proofs.YtpbipanafihabaaDoor
