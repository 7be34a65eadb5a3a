/- A URL's text with great letters ahead of its path, and with something behind #: the same URL; over lists of bytes. -/
import Derived.Test.YtpbipanafihabaaDoorPrsR
import Derived.Lib.Case
import Derived.Lib.IndexAny
namespace Go.Proofs.YtpbipanafihabaaDoor
open Go.RowKit

theorem all256 {p : UInt8 → Prop} (h : ∀ i : Fin 256, p (UInt8.ofNat i.val)) (c : UInt8) : p c := by
  have := h ⟨c.toNat, c.toNat_lt⟩
  simpa using this
theorem low_up (c : UInt8) : low (Lib.upperB c) = low c := all256 (p := fun c => low (Lib.upperB c) = low c) (by decide +kernel) c
theorem up_digit (c : UInt8) : digB c = true → Lib.upperB c = c := all256 (p := fun c => digB c = true → Lib.upperB c = c) (by decide +kernel) c
def isEnd (c : UInt8) : Bool := c == 47 || c == 63 || c == 35
theorem up_end (c : UInt8) : isEnd (Lib.upperB c) = isEnd c := all256 (p := fun c => isEnd (Lib.upperB c) = isEnd c) (by decide +kernel) c
theorem up_colon (c : UInt8) : Lib.upperB c = 58 ↔ c = 58 := all256 (p := fun c => Lib.upperB c = 58 ↔ c = 58) (by decide +kernel) c
theorem low_end (c : UInt8) : isEnd (low c) = isEnd c := all256 (p := fun c => isEnd (low c) = isEnd c) (by decide +kernel) c
theorem host_small (was c : UInt8) (h : hostStep was (low c) = true) : c.toNat < 128 := by
  have h1 : low c = 46 ∨ low c = 45 ∨ alnum (low c) = true := by
    unfold hostStep at h
    by_cases e1 : low c = 46
    · exact .inl e1
    by_cases e2 : low c = 45
    · exact .inr (.inl e2)
    · right; right
      by_cases e3 : alnum (low c) = true
      · exact e3
      · simp [e1, e2, e3] at h
  exact all256 (p := fun c => (low c = 46 ∨ low c = 45 ∨ alnum (low c) = true) → c.toNat < 128) (by decide +kernel) c h1
theorem host_low : ∀ (l : List UInt8) (was : UInt8), hostFrom was (l.map low) = true → ∀ c ∈ l, c.toNat < 128
  | [], _, _, c, hc => by cases hc
  | b :: l, was, h, c, hc => by
    rw [List.map_cons, hostFrom, Bool.and_eq_true] at h
    rcases List.mem_cons.1 hc with rfl | hc
    · exact host_small _ _ h.1
    · exact host_low l _ h.2 c hc
theorem cutL_up : ∀ l, cutL 58 (l.map Lib.upperB) = ((cutL 58 l).1.map Lib.upperB, (cutL 58 l).2.1.map Lib.upperB, (cutL 58 l).2.2)
  | [] => rfl
  | b :: l => by
    rw [List.map_cons, cutL, cutL]
    by_cases h : b = 58
    · rw [if_pos ((up_colon b).2 h), if_pos h]; rfl
    · rw [if_neg (fun e => h ((up_colon b).1 e)), if_neg h, cutL_up l]; rfl
theorem cutL_join (c : UInt8) : ∀ l, l = (cutL c l).1 ++ (if (cutL c l).2.2 then c :: (cutL c l).2.1 else [])
  | [] => rfl
  | b :: l => by
    rw [cutL]
    split
    · rename_i h; simp [h]
    · conv => lhs; rw [cutL_join c l]
      rfl
theorem cutL_false (c : UInt8) : ∀ l, (cutL c l).2.2 = false → (cutL c l).2.1 = []
  | [], _ => rfl
  | b :: l, h => by
    rw [cutL] at h ⊢
    split at h
    · cases h
    · rename_i hb
      rw [if_neg hb]
      exact cutL_false c l h
theorem cutL_notin (c : UInt8) : ∀ l, c ∉ (cutL c l).1
  | [] => by simp [cutL]
  | b :: l => by
    rw [cutL]
    split
    · simp
    · rename_i h
      simp only [List.mem_cons, not_or]
      exact ⟨fun e => h e.symm, cutL_notin c l⟩
/-- The parts of an origin that may be: the host's bytes and the port's are ASCII, and great letters make no other one. -/
theorem origin_up {sec : Bool} {l : List UInt8} {y : List UInt8 × Int} (h : originL sec l = some y) : (∀ c ∈ l, c.toNat < 128) ∧ originL sec (l.map Lib.upperB) = some y := by
  have h0 := h
  by_cases hr : rightL ((cutL 58 l).1.map low) (if (cutL 58 l).2.2 then (numL (cutL 58 l).2.1 : Int) else portI sec) = true
  · clear h
    unfold rightL at hr
    simp only [Bool.and_eq_true, decide_eq_true_eq] at hr
    obtain ⟨⟨_, hp1, _⟩, hh⟩ := hr
    have hhost := host_low _ _ hh
    have hd : (cutL 58 l).2.2 = true → (cutL 58 l).2.1.all digB = true := fun hf => by
      rw [hf] at hp1
      simp only [if_true] at hp1
      by_cases hn : (cutL 58 l).2.1.length ≤ 5 ∧ (cutL 58 l).2.1.all digB = true
      · exact hn.2
      · have : numL (cutL 58 l).2.1 = 0 := if_neg hn
        rw [this] at hp1
        exact absurd hp1 (by decide)
    have hmap : (cutL 58 l).2.1.map Lib.upperB = (cutL 58 l).2.1 := by
      cases hf : (cutL 58 l).2.2 with
      | false => rw [cutL_false _ _ hf]; rfl
      | true =>
        have h9 := List.all_eq_true.1 (hd hf)
        conv => rhs; rw [← List.map_id (cutL 58 l).2.1]
        exact List.map_congr_left (fun c hc => up_digit c (h9 c hc))
    have hlow : ((cutL 58 l).1.map Lib.upperB).map low = (cutL 58 l).1.map low := by
      rw [List.map_map]
      exact List.map_congr_left (fun c _ => low_up c)
    refine ⟨fun c hc => ?_, ?_⟩
    · rw [cutL_join 58 l] at hc
      rcases List.mem_append.1 hc with hc | hc
      · exact hhost c hc
      · cases hf : (cutL 58 l).2.2 with
        | false => rw [hf] at hc; cases hc
        | true =>
          rw [hf] at hc
          rcases List.mem_cons.1 hc with rfl | hc
          · decide
          · have := of_decide_eq_true (List.all_eq_true.1 (hd hf) c hc)
            omega
    · unfold originL at h0 ⊢
      rw [cutL_up l]
      dsimp only
      rw [hlow, hmap]
      exact h0
  · unfold originL at h
    rw [if_neg hr] at h
    cases h
/-- What a URL's text is made of: a scheme's mark, a host with perhaps a port, and what stands behind, from the first / ? or # on. -/
structure Shp3 (l s h t : List UInt8) (sec : Bool) : Prop where
  eq : l = s ++ (h ++ t)
  mark : (s.length = 7 ∧ sec = false ∧ s.map low = httpL) ∨ (s.length = 8 ∧ sec = true ∧ s.map low = httpsL)
  host : ∀ c ∈ h, isEnd c = false
  tail : t = [] ∨ ∃ c r, t = c :: r ∧ isEnd c = true
def tailA (sec : Bool) (y : List UInt8 × Int) (t : List UInt8) : Int ⊕ (Bool × List UInt8 × Int × List UInt8 × List UInt8) :=
  if sendL (cutL 63 (cutL 35 t).1).1 && sendL (cutL 63 (cutL 35 t).1).2.1 then (if (cleanL (cutL 63 (cutL 35 t).1).1).length ≤ 200 then .inr (sec, y.1, y.2, cleanL (cutL 63 (cutL 35 t).1).1, (cutL 63 (cutL 35 t).1).2.1) else .inl 2) else .inl 3
theorem mark_no {s : List UInt8} {sec : Bool} (h : (s.length = 7 ∧ sec = false ∧ s.map low = httpL) ∨ (s.length = 8 ∧ sec = true ∧ s.map low = httpsL)) (d : UInt8) (hd : d = 63 ∨ d = 35) : d ∉ s := fun hm => by
  have h1 := List.mem_map_of_mem (f := low) hm
  have h2 : low d = d := by rcases hd with rfl | rfl <;> decide
  rw [h2] at h1
  rcases h with ⟨_, _, e⟩ | ⟨_, _, e⟩ <;> rw [e] at h1 <;> rcases hd with rfl | rfl <;> exact absurd h1 (by decide)
theorem end_ne {c : UInt8} (h : isEnd c = false) : c ≠ 47 ∧ c ≠ 63 ∧ c ≠ 35 := by
  refine ⟨?_, ?_, ?_⟩ <;> rintro rfl <;> exact absurd h (by decide)
theorem mark_scheme {s r : List UInt8} {sec : Bool} (h : (s.length = 7 ∧ sec = false ∧ s.map low = httpL) ∨ (s.length = 8 ∧ sec = true ∧ s.map low = httpsL)) : schemeL (s ++ r) = some (sec, (s ++ r).drop s.length) := by
  rcases h with ⟨hl, rfl, he⟩ | ⟨hl, rfl, he⟩
  · unfold schemeL
    rw [List.take_append_of_le_length (by omega), List.take_of_length_le (by omega), if_pos he, hl]
  · have h7 : ((s ++ r).take 7).map low ≠ httpL := by
      rw [List.take_append_of_le_length (by omega), List.map_take, he]
      decide
    unfold schemeL
    rw [if_neg h7, List.take_append_of_le_length (by omega), List.take_of_length_le (by omega), if_pos he, hl]
theorem cutL_head (c : UInt8) (l : List UInt8) : (cutL c l).1 = [] ∨ ∃ b r, (cutL c l).1 = b :: r ∧ ∃ r', l = b :: r' := by
  cases l with
  | nil => exact .inl rfl
  | cons b l =>
    rw [cutL]
    split
    · exact .inl rfl
    · exact .inr ⟨b, _, rfl, l, rfl⟩
theorem shape_parse {l s h t : List UInt8} {sec : Bool} {y : List UInt8 × Int} (H : Shp3 l s h t sec) (ho : originL sec h = some y) : parseL l = tailA sec y t := by
  have h35s : (35 : UInt8) ∉ s := mark_no H.mark 35 (.inr rfl)
  have h35h : (35 : UInt8) ∉ h := fun hm => (end_ne (H.host _ hm)).2.2 rfl
  have h1 : cutL 35 l = (s ++ (h ++ (cutL 35 t).1), (cutL 35 t).2.1, (cutL 35 t).2.2) := by
    rw [H.eq, cutL_app 35 _ s h35s, cutL_app 35 t h h35h]
  have hs : schemeL (s ++ (h ++ (cutL 35 t).1)) = some (sec, (s ++ (h ++ (cutL 35 t).1)).drop s.length) := mark_scheme H.mark
  have e1 : (s ++ (h ++ (cutL 35 t).1)).take (s.length + h.length) = s ++ h := by
    rw [← List.append_assoc, List.take_append_of_le_length (by simp), List.take_of_length_le (by simp)]
  have e2 : (s ++ (h ++ (cutL 35 t).1)).drop (s.length + h.length) = (cutL 35 t).1 := by
    rw [← List.append_assoc, ← List.length_append, List.drop_left]
  have e3 : ((s ++ (h ++ (cutL 35 t).1)).take (s.length + h.length)).drop s.length = h := by rw [e1, List.drop_left]
  have hend : (s ++ (h ++ (cutL 35 t).1)).drop (s.length + h.length) = [] ∨ ∃ c r, (s ++ (h ++ (cutL 35 t).1)).drop (s.length + h.length) = c :: r ∧ (c = 47 ∨ c = 63) := by
    rw [e2]
    rcases cutL_head 35 t with e | ⟨b, r, e, r', er⟩
    · exact .inl e
    · right
      refine ⟨b, r, e, ?_⟩
      have hb : b ≠ 35 := fun eb => cutL_notin 35 t (by rw [e, eb]; exact List.mem_cons_self)
      rcases H.tail with h0 | ⟨c, r2, h0, hc⟩
      · rw [h0] at er; cases er
      · rw [h0] at er
        injection er with ec _
        subst ec
        simp [isEnd] at hc
        rcases hc with (h | h) | h
        · exact .inl h
        · exact .inr h
        · exact absurd h hb
  have hq : cutL 63 ((s ++ (h ++ (cutL 35 t).1)).drop (s.length + h.length)) = ((cutL 63 (cutL 35 t).1).1, (cutL 63 (cutL 35 t).1).2.1, (cutL 63 (cutL 35 t).1).2.2) := by rw [e2]
  have hm : ∀ c ∈ ((s ++ (h ++ (cutL 35 t).1)).take (s.length + h.length)).drop s.length, c ≠ 47 ∧ c ≠ 63 := by
    rw [e3]
    exact fun c hc => ⟨(end_ne (H.host c hc)).1, (end_ne (H.host c hc)).2.1⟩
  have := (parse_ref h1 hs (Nat.le_add_right _ _) (by simp only [List.length_append]; omega) hm hend hq).2 y.1 y.2 (by rw [e3]; exact ho)
  exact this
theorem parse_shape {l : List UInt8} {v : Bool × List UInt8 × Int × List UInt8 × List UInt8} (hp : parseL l = .inr v) : ∃ s h t sec y, Shp3 l s h t sec ∧ originL sec h = some y := by
  unfold parseL at hp
  split at hp
  · cases hp
  rename_i sec r hs
  split at hp
  · cases hp
  rename_i hh n ho
  clear hp
  have hm : ∃ s, (cutL 63 (cutL 35 l).1).1 = s ++ r ∧ ((s.length = 7 ∧ sec = false ∧ s.map low = httpL) ∨ (s.length = 8 ∧ sec = true ∧ s.map low = httpsL)) := by
    unfold schemeL at hs
    split at hs
    · rename_i hA
      have hl := take_len hA rfl
      simp only [Option.some.injEq, Prod.mk.injEq] at hs
      obtain ⟨rfl, rfl⟩ := hs
      exact ⟨_, (List.take_append_drop 7 _).symm, .inl ⟨by rw [List.length_take]; have : httpL.length = 7 := rfl; omega, rfl, hA⟩⟩
    · split at hs
      · rename_i hB
        have hl := take_len hB rfl
        simp only [Option.some.injEq, Prod.mk.injEq] at hs
        obtain ⟨rfl, rfl⟩ := hs
        exact ⟨_, (List.take_append_drop 8 _).symm, .inr ⟨by rw [List.length_take]; omega, rfl, hB⟩⟩
      · cases hs
  obtain ⟨s, hsr, hmark⟩ := hm
  have j47 := cutL_join 47 r
  have j63 := cutL_join 63 (cutL 35 l).1
  have j35 := cutL_join 35 l
  have n63 := cutL_notin 63 (cutL 35 l).1
  have n35 := cutL_notin 35 l
  have n47 := cutL_notin 47 r
  rw [hsr] at j63 n63
  refine ⟨s, (cutL 47 r).1, (if (cutL 47 r).2.2 then 47 :: (cutL 47 r).2.1 else []) ++ ((if (cutL 63 (cutL 35 l).1).2.2 then 63 :: (cutL 63 (cutL 35 l).1).2.1 else []) ++ (if (cutL 35 l).2.2 then 35 :: (cutL 35 l).2.1 else [])), sec, _, ⟨?_, hmark, ?_, ?_⟩, ho⟩
  · conv => lhs; rw [j35, j63]
    rw [List.append_assoc, List.append_assoc]
    congr 1
    conv => lhs; rw [j47]
    rw [List.append_assoc]
  · intro c hc
    have hr : c ∈ r := by rw [j47]; exact List.mem_append_left _ hc
    have c47 : c ≠ 47 := fun e => n47 (e ▸ hc)
    have c63 : c ≠ 63 := fun e => n63 (List.mem_append_right _ (e ▸ hr))
    have c35 : c ≠ 35 := fun e => n35 (by rw [j63]; exact List.mem_append_left _ (List.mem_append_right _ (e ▸ hr)))
    simp [isEnd, c47, c63, c35]
  · cases (cutL 47 r).2.2 with
    | true => exact .inr ⟨47, _, rfl, by decide⟩
    | false =>
      cases (cutL 63 (cutL 35 l).1).2.2 with
      | true => exact .inr ⟨63, _, rfl, by decide⟩
      | false =>
        cases (cutL 35 l).2.2 with
        | true => exact .inr ⟨35, _, rfl, by decide⟩
        | false => exact .inl rfl
/-- Great letters ahead of the path make no other URL. -/
theorem parse_up {l s h t : List UInt8} {sec : Bool} {y : List UInt8 × Int} (H : Shp3 l s h t sec) (ho : originL sec h = some y) : parseL ((s ++ h).map Lib.upperB ++ t) = parseL l := by
  rw [shape_parse H ho]
  refine shape_parse (s := s.map Lib.upperB) (h := h.map Lib.upperB) ⟨by rw [List.map_append, List.append_assoc], ?_, ?_, H.tail⟩ (origin_up ho).2
  · have e : (s.map Lib.upperB).map low = s.map low := by
      rw [List.map_map]
      exact List.map_congr_left (fun c _ => low_up c)
    rw [e, List.length_map]
    exact H.mark
  · intro c hc
    obtain ⟨d, hd, rfl⟩ := List.mem_map.1 hc
    rw [up_end]
    exact H.host d hd
/-- What stands behind # is nothing. -/
theorem parse_more (l m : List UInt8) : parseL (l ++ 35 :: m) = parseL l := by
  have : ∀ l : List UInt8, (cutL 35 (l ++ 35 :: m)).1 = (cutL 35 l).1 := by
    intro l
    induction l with
    | nil => simp [cutL]
    | cons b l ih =>
      rw [List.cons_append, cutL, cutL]
      split
      · rfl
      · dsimp only; rw [ih]
  unfold parseL
  rw [this l]
theorem mark_ascii {s : List UInt8} {sec : Bool} (h : (s.length = 7 ∧ sec = false ∧ s.map low = httpL) ∨ (s.length = 8 ∧ sec = true ∧ s.map low = httpsL)) (d : UInt8) (hd : d ∈ s) : d.toNat < 128 := by
  have h1 := List.mem_map_of_mem (f := low) hd
  have h2 : ∀ e : UInt8, 128 ≤ e.toNat → low e = e := all256 (by decide +kernel)
  have h3 : ∀ c ∈ httpsL, c.toNat < 128 := by decide
  have h4 : ∀ c ∈ httpL, c.toNat < 128 := by decide
  rcases Nat.lt_or_ge d.toNat 128 with hl | hl
  · exact hl
  · rw [h2 d hl] at h1
    rcases h with ⟨_, _, e⟩ | ⟨_, _, e⟩ <;> rw [e] at h1
    · exact h4 d h1
    · exact h3 d h1
/-- Where the scheme's mark stands. -/
theorem shape_index {l s h t : List UInt8} {sec : Bool} (H : Shp3 l s h t sec) : Lib.index l markC = ((s.length - 3 : Nat) : Int) := by
  have hs : schemeL l = some (sec, l.drop s.length) := by rw [H.eq]; exact mark_scheme H.mark
  have hsl : s.length ≤ l.length := by rw [H.eq]; simp
  rcases scheme_idx l with ⟨_, hn⟩ | ⟨i, hi, hil, hsc⟩
  · rw [hn] at hs; cases hs
  · rw [hi]
    congr 1
    have key : ∀ sec', schemeL l = some (sec', l.drop (i + 3)) → i = s.length - 3 := fun sec' h => by
      rw [hs] at h
      simp only [Option.some.injEq, Prod.mk.injEq] at h
      have := congrArg List.length h.2
      rw [List.length_drop, List.length_drop] at this
      omega
    rcases hsc with ⟨_, h⟩ | ⟨_, h⟩ | ⟨_, _, h⟩
    · exact key _ h
    · exact key _ h
    · rw [h] at hs; cases hs
def endL : List UInt8 := [47, 63, 35]
theorem endL_is (c : UInt8) : endL.contains c = isEnd c := all256 (p := fun c => endL.contains c = isEnd c) (by decide +kernel) c
theorem indexAny_at : ∀ (h : List UInt8) (t : List UInt8), (∀ c ∈ h, isEnd c = false) → (t = [] ∨ ∃ c r, t = c :: r ∧ isEnd c = true) → Lib.indexAny (h ++ t) endL = if t.isEmpty then -1 else (h.length : Int)
  | [], t, _, ht => by
    rcases ht with rfl | ⟨c, r, rfl, hc⟩
    · rfl
    · rw [List.nil_append, Lib.indexAny, endL_is, hc]; rfl
  | b :: h, t, hh, ht => by
    rw [List.cons_append, Lib.indexAny, endL_is, hh b List.mem_cons_self, indexAny_at h t (fun c hc => hh c (List.mem_cons_of_mem _ hc)) ht]
    cases t with
    | nil => rfl
    | cons c r =>
      have : ((h.length : Int) == -1) = false := by rw [beq_eq_false_iff_ne]; omega
      simp [this]
end Go.Proofs.YtpbipanafihabaaDoor
