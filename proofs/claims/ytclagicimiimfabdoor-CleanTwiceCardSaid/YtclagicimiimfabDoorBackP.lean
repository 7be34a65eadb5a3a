/- A URL that was read is written and read again: over lists of bytes. -/
import Derived.Test.YtclagicimiimfabDoorBackQ
import Derived.Test.YtclagicimiimfabDoorPrt
namespace Go.Proofs.YtclagicimiimfabDoor
open Go.RowKit

theorem joinL_mem (d : UInt8) : ∀ (ps : List (List UInt8)) (c : UInt8), c ∈ joinL d ps → c = d ∨ ∃ p ∈ ps, c ∈ p
  | [], c, h => by cases h
  | [p], c, h => .inr ⟨p, by simp, h⟩
  | p :: q :: r, c, h => by
    rw [joinL] at h
    · rcases List.mem_append.1 h with h | h
      · exact .inr ⟨p, by simp, h⟩
      · rcases List.mem_cons.1 h with h | h
        · exact .inl h
        · rcases joinL_mem d (q :: r) c h with h | ⟨x, hx, hc⟩
          · exact .inl h
          · exact .inr ⟨x, List.mem_cons_of_mem _ hx, hc⟩
    · simp
theorem splitL_mem (d : UInt8) : ∀ (l : List UInt8) (p : List UInt8), p ∈ splitL d l → ∀ c ∈ p, c ∈ l
  | [], p, hp, c, hc => by
    rw [splitL, List.mem_singleton] at hp
    subst hp
    cases hc
  | b :: t, p, hp, c, hc => by
    rw [splitL] at hp
    split at hp
    · rcases List.mem_cons.1 hp with rfl | hp
      · cases hc
      · exact List.mem_cons_of_mem _ (splitL_mem d t p hp c hc)
    · cases e : splitL d t with
      | nil => exact absurd e (splitL_ne d t)
      | cons x r =>
        rw [e] at hp
        dsimp only at hp
        rcases List.mem_cons.1 hp with rfl | hp
        · rcases List.mem_cons.1 hc with rfl | hc
          · simp
          · exact List.mem_cons_of_mem _ (splitL_mem d t x (by rw [e]; simp) c hc)
        · exact List.mem_cons_of_mem _ (splitL_mem d t p (by rw [e]; exact List.mem_cons_of_mem _ hp) c hc)
theorem cleanStep_mem (last : Bool) (acc : List (List UInt8)) (p q : List UInt8) (h : q ∈ cleanStep last acc p) : q ∈ acc ∨ q = [] ∨ q = p := by
  have hd : ∀ x ∈ acc.dropLast, x ∈ acc := fun x hx => List.dropLast_subset _ hx
  unfold cleanStep at h
  split at h
  · split at h
    · rcases List.mem_append.1 h with h | h
      · exact .inl h
      · exact .inr (.inl (by simpa using h))
    · exact .inl h
  · split at h
    · split at h
      · rcases List.mem_append.1 h with h | h
        · exact .inl (hd _ h)
        · exact .inr (.inl (by simpa using h))
      · exact .inl (hd _ h)
    · rcases List.mem_append.1 h with h | h
      · exact .inl h
      · exact .inr (.inr (by simpa using h))
theorem cleanParts_mem : ∀ (ps acc : List (List UInt8)) (q : List UInt8), q ∈ cleanParts acc ps → q ∈ acc ∨ q = [] ∨ q ∈ ps
  | [], acc, q, h => .inl h
  | p :: r, acc, q, h => by
    rw [cleanParts] at h
    rcases cleanParts_mem r _ q h with h | h | h
    · rcases cleanStep_mem _ _ _ _ h with h | h | h
      · exact .inl h
      · exact .inr (.inl h)
      · exact .inr (.inr (by simp [h]))
    · exact .inr (.inl h)
    · exact .inr (.inr (List.mem_cons_of_mem _ h))
theorem bodyL_mem (s : List UInt8) (c : UInt8) (h : c ∈ bodyL s) : c ∈ s := by
  unfold bodyL at h
  split at h
  · exact List.mem_cons_of_mem _ h
  · exact h
theorem cleanL_mem (s : List UInt8) (c : UInt8) (h : c ∈ cleanL s) : c = 47 ∨ c ∈ s := by
  unfold cleanL at h
  rcases List.mem_cons.1 h with h | h
  · exact .inl h
  · rcases joinL_mem 47 _ c h with h | ⟨p, hp, hc⟩
    · exact .inl h
    · rcases cleanParts_mem _ _ _ hp with h | h | h
      · cases h
      · subst h
        cases hc
      · exact .inr (bodyL_mem s c (splitL_mem 47 _ p h c hc))
theorem cut_first (c : UInt8) : ∀ l, c ∉ (cutL c l).1
  | [] => by simp [cutL]
  | b :: t => by
    unfold cutL
    split
    · simp
    · rename_i h
      intro hm
      rcases List.mem_cons.1 hm with e | e
      · exact h e.symm
      · exact cut_first c t e
theorem cut_short (c : UInt8) : ∀ l, (cutL c l).2.1.length ≤ l.length
  | [] => by simp [cutL]
  | b :: t => by
    unfold cutL
    split
    · simp
    · have := cut_short c t
      simp
      omega
theorem cut_shorter (c : UInt8) : ∀ l, (cutL c l).1.length ≤ l.length
  | [] => by simp [cutL]
  | b :: t => by
    unfold cutL
    split
    · simp
    · have := cut_shorter c t
      simp
      omega
theorem send_ne {l : List UInt8} (h : sendL l = true) : (35 : UInt8) ∉ l := fun hm => absurd (List.all_eq_true.1 h _ hm) (by decide)
theorem clean_send {l : List UInt8} (h : sendL l = true) : sendL (cleanL l) = true := by
  unfold sendL at *
  rw [List.all_eq_true] at *
  intro c hc
  rcases cleanL_mem l c hc with rfl | hc
  · decide
  · exact h c hc
theorem scheme_mem {a r : List UInt8} {sec : Bool} (h : schemeL a = some (sec, r)) : ∀ c ∈ r, c ∈ a := by
  unfold schemeL at h
  intro c hc
  split at h
  · simp only [Option.some.injEq, Prod.mk.injEq] at h
    rw [← h.2] at hc
    exact List.mem_of_mem_drop hc
  · split at h
    · simp only [Option.some.injEq, Prod.mk.injEq] at h
      rw [← h.2] at hc
      exact List.mem_of_mem_drop hc
    · cases h
/-- What a URL that was read is. -/
theorem parse_parts {l h p q : List UInt8} {sec : Bool} {n : Int} (hp : parseL l = .inr (sec, h, n, p, q)) :
    rightL h n = true ∧ sendL p = true ∧ sendL q = true ∧ (63 : UInt8) ∉ p ∧ (∃ r, p = 47 :: r) ∧ cleanL p = p ∧ p.length ≤ 200 ∧ q.length ≤ l.length := by
  unfold parseL at hp
  have h63 : (63 : UInt8) ∉ (cutL 63 (cutL 35 l).1).1 := cut_first 63 _
  have hq : (cutL 63 (cutL 35 l).1).2.1.length ≤ l.length := Nat.le_trans (cut_short 63 _) (cut_shorter 35 l)
  generalize (cutL 63 (cutL 35 l).1).1 = a at hp h63
  generalize (cutL 63 (cutL 35 l).1).2.1 = b at hp hq
  cases hs : schemeL a with
  | none => rw [hs] at hp; cases hp
  | some x =>
    obtain ⟨sec2, r⟩ := x
    rw [hs] at hp
    dsimp only at hp
    cases ho : originL sec2 (cutL 47 r).1 with
    | none => rw [ho] at hp; cases hp
    | some y =>
      obtain ⟨h2, n2⟩ := y
      rw [ho] at hp
      dsimp only at hp
      have hr := (originL_host ho).2
      have hm : ∀ c ∈ r.drop (cutL 47 r).1.length, c ∈ a := fun c hc => scheme_mem hs c (List.mem_of_mem_drop hc)
      generalize r.drop (cutL 47 r).1.length = path at hp hm
      split at hp
      · rename_i hse
        rw [Bool.and_eq_true] at hse
        split at hp
        · rename_i hl
          simp only [Sum.inr.injEq, Prod.mk.injEq] at hp
          obtain ⟨rfl, rfl, rfl, rfl, rfl⟩ := hp
          refine ⟨hr, clean_send hse.1, hse.2, fun hc => ?_, ⟨_, rfl⟩, cleanL_twice _, hl, hq⟩
          rcases cleanL_mem _ _ hc with e | e
          · exact absurd e (by decide)
          · exact h63 (hm _ e)
        · cases hp
      · cases hp
/-- A URL as text. -/
def printL (sec : Bool) (h : List UInt8) (n : Int) (p q : List UInt8) : List UInt8 := textL sec h n ++ p ++ (if q = [] then [] else 63 :: q)
theorem text_ne (sec : Bool) (h : List UInt8) (n : Int) (hr : rightL h n = true) (d : UInt8) (hd : d.toNat = 35 ∨ d.toNat = 63) : d ∉ textL sec h n := by
  obtain ⟨hl, h1, h2, hh⟩ := rightL_parts hr
  unfold textL
  intro hm
  rcases List.mem_append.1 hm with hm | hm
  · rcases List.mem_append.1 hm with hm | hm
    · have hd2 : d = 35 ∨ d = 63 := hd.imp (fun e => UInt8.toNat_inj.1 e) (fun e => UInt8.toNat_inj.1 e)
      rcases hd2 with rfl | rfl <;> cases sec <;> exact absurd hm (by decide)
    · exact host_ne hh d (by omega) hm
  · exact tail_ne sec n h1 d (by omega) hm
theorem parse_back {l h p q : List UInt8} {sec : Bool} {n : Int} (hp : parseL l = .inr (sec, h, n, p, q)) : parseL (printL sec h n p q) = .inr (sec, h, n, p, q) := by
  obtain ⟨hr, hsp, hsq, h63, ⟨r, rfl⟩, hcl, hlen, _⟩ := parse_parts hp
  obtain ⟨hl, h1, h2, hh⟩ := rightL_parts hr
  have c35 : cutL 35 (printL sec h n (47 :: r) q) = (printL sec h n (47 :: r) q, [], false) := by
    refine cutL_none 35 _ fun hm => ?_
    unfold printL at hm
    rcases List.mem_append.1 hm with hm | hm
    · rcases List.mem_append.1 hm with hm | hm
      · exact text_ne sec h n hr 35 (.inl rfl) hm
      · exact send_ne hsp hm
    · split at hm
      · cases hm
      · rcases List.mem_cons.1 hm with e | hm
        · exact absurd e (by decide)
        · exact send_ne hsq hm
  have n63 : (63 : UInt8) ∉ textL sec h n ++ 47 :: r := fun hm => by
    rcases List.mem_append.1 hm with hm | hm
    · exact text_ne sec h n hr 63 (.inr rfl) hm
    · exact h63 hm
  have c63 : ∃ g, cutL 63 (printL sec h n (47 :: r) q) = (textL sec h n ++ 47 :: r, q, g) := by
    unfold printL
    by_cases hq : q = []
    · subst hq
      rw [if_pos rfl, List.append_nil]
      exact ⟨_, cutL_none 63 _ n63⟩
    · rw [if_neg hq]
      exact ⟨_, cutL_some 63 q _ n63⟩
  obtain ⟨g, c63⟩ := c63
  have hsch : schemeL (textL sec h n ++ 47 :: r) = some (sec, h ++ tailT sec n ++ 47 :: r) := by
    unfold textL
    rw [List.append_assoc, List.append_assoc, scheme_mark, List.append_assoc]
  have n47 : (47 : UInt8) ∉ h ++ tailT sec n := fun hm => by
    rcases List.mem_append.1 hm with hm | hm
    · exact host_ne hh 47 (by decide) hm
    · exact tail_ne sec n h1 47 (by decide) hm
  rw [parse_rest c35 c63 hsch (cutL_some 47 r _ n47) (origin_back sec h n hr)]
  have hd : (h ++ tailT sec n ++ 47 :: r).drop (h ++ tailT sec n).length = 47 :: r := List.drop_left' rfl
  rw [hd, hsp, hsq, hcl, if_pos (by rfl), if_pos hlen]
theorem print_list (sec : Bool) (h p q : ByteArray) (n : Int) : (printB sec h n p q).data.toList = printL sec h.data.toList n p.data.toList q.data.toList := by
  have ha : ∀ a b : ByteArray, (a ++ b).data.toList = a.data.toList ++ b.data.toList := fun a b => by simp
  have hb : ∀ l, (bs l).data.toList = l := fun l => rfl
  unfold printB printL tgt
  rw [ha, hb, List.append_assoc]
  congr 1
  by_cases e : q.size = 0
  · have : q.data.toList = [] := by
      have : q.data.toList.length = 0 := by rw [Array.length_toList]; exact e
      exact List.length_eq_zero_iff.1 this
    rw [if_pos e, if_pos this, List.append_nil]
  · have : q.data.toList ≠ [] := fun h0 => e (by
      have : q.data.toList.length = 0 := by rw [h0]; rfl
      rw [Array.length_toList] at this
      exact this)
    rw [if_neg e, if_neg this, ha, ha, hb, List.append_assoc]
    rfl
end Go.Proofs.YtclagicimiimfabDoor
