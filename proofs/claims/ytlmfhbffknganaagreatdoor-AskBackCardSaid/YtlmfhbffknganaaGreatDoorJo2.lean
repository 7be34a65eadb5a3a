/- Texts of one claim, joined: each begins with what it proves. -/
import Derived.Test.YtlmfhbffknganaaGreatDoorJo1
import Derived.Deep.Cut
/- Origins and paths as the document says them, over lists of bytes. -/
namespace Go.Proofs.YtlmfhbffknganaaGreatDoor

/-- A byte of a host's label: a small letter or a digit. -/
def alnum (c : UInt8) : Bool := decide (97 ≤ c.toNat ∧ c.toNat ≤ 122) || decide (48 ≤ c.toNat ∧ c.toNat ≤ 57)
/-- Whether a byte may stand behind another one in a host (46: a point; ahead of the first byte and behind the last one a point is thought). -/
def hostStep (was c : UInt8) : Bool :=
  !((c == 46 && (was == 46 || was == 45)) || (c == 45 && was == 46) || (c != 46 && c != 45 && !alnum c))
def hostFrom (was : UInt8) : List UInt8 → Bool
  | [] => hostStep was 46
  | c :: t => hostStep was c && hostFrom c t
def hostL (l : List UInt8) : Bool := hostFrom 46 l
def rightL (host : List UInt8) (port : Int) : Bool := decide (host.length ≤ 60) && decide (1 ≤ port ∧ port ≤ 65535) && hostL host
/-- The port that is meant where none is told. -/
def portI (b : Bool) : Int := if b then 443 else 80
/-- A path up to its last slash, with it. -/
def dirL (l : List UInt8) : List UInt8 := (l.reverse.dropWhile (· != 47)).reverse
/-- A byte that may stand in a path or a query. -/
def sendB (c : UInt8) : Bool := decide (97 ≤ c.toNat ∧ c.toNat ≤ 122) || decide (65 ≤ c.toNat ∧ c.toNat ≤ 90) || decide (48 ≤ c.toNat ∧ c.toNat ≤ 57) || [45, 46, 95, 126, 33, 36, 38, 39, 40, 41, 42, 43, 44, 59, 61, 58, 64, 37, 47, 63].contains c
def sendL (l : List UInt8) : Bool := l.all sendB
/-- What stands between slashes. -/
def splitL (d : UInt8) : List UInt8 → List (List UInt8)
  | [] => [[]]
  | c :: t => if c = d then [] :: splitL d t else match splitL d t with
    | [] => [[c]]
    | p :: r => (c :: p) :: r
def joinL (d : UInt8) : List (List UInt8) → List UInt8
  | [] => []
  | [p] => p
  | p :: r => p ++ d :: joinL d r
/-- One part behind others: a point is left out, two take the one ahead away; if it is the last one an empty part stands there. -/
def cleanStep (last : Bool) (acc : List (List UInt8)) (p : List UInt8) : List (List UInt8) :=
  if p = [46] then (if last then acc ++ [[]] else acc)
  else if p = [46, 46] then (if last then acc.dropLast ++ [[]] else acc.dropLast)
  else acc ++ [p]
def cleanParts (acc : List (List UInt8)) : List (List UInt8) → List (List UInt8)
  | [] => acc
  | p :: r => cleanParts (cleanStep r.isEmpty acc p) r
def bodyL (s : List UInt8) : List UInt8 := match s with
  | 47 :: t => t
  | _ => s
def cleanL (s : List UInt8) : List UInt8 := 47 :: joinL 47 (cleanParts [] (splitL 47 (bodyL s)))
theorem clean_one : cleanL [47, 97, 47, 46, 47, 98, 47, 46, 46] = [47, 97, 47] := by decide
theorem clean_two : cleanL [46, 46, 47, 120] = [47, 120] := by decide
theorem clean_empty : cleanL [] = [47] := by decide
theorem host_one : hostL [97, 46, 116, 45, 49] = true := by decide
theorem host_two : hostL [97, 46] = false := by decide
end Go.Proofs.YtlmfhbffknganaaGreatDoor

/- Clean is clean; a path's directory is its own: over lists of bytes. -/
namespace Go.Proofs.YtlmfhbffknganaaGreatDoor

theorem splitL_ne (d : UInt8) : ∀ l, splitL d l ≠ []
  | [] => by simp [splitL]
  | c :: t => by
    unfold splitL
    split
    · simp
    · split <;> simp
theorem splitL_no (d : UInt8) : ∀ l, ∀ p ∈ splitL d l, d ∉ p
  | [], p, h => by
    simp [splitL] at h
    simp [h]
  | c :: t, p, h => by
    have ih := splitL_no d t
    unfold splitL at h
    split at h
    · rcases List.mem_cons.1 h with h | h
      · simp [h]
      · exact ih p h
    · rename_i hc
      split at h
      · simp at h
        subst h
        simp
        exact fun e => hc e.symm
      · rename_i q r hq
        rcases List.mem_cons.1 h with h | h
        · subst h
          have := ih q (by rw [hq]; simp)
          simp
          exact ⟨fun e => hc e.symm, this⟩
        · exact ih p (by rw [hq]; simp [h])
theorem splitL_part (d : UInt8) (p : List UInt8) (h : d ∉ p) : splitL d p = [p] := by
  induction p with
  | nil => rfl
  | cons c t ih =>
    have h1 : c ≠ d := fun e => h (by simp [e])
    have h2 : d ∉ t := fun e => h (by simp [e])
    unfold splitL
    rw [if_neg h1, ih h2]
theorem splitL_more (d : UInt8) (p t : List UInt8) (h : d ∉ p) : splitL d (p ++ d :: t) = p :: splitL d t := by
  induction p with
  | nil => simp [splitL]
  | cons c r ih =>
    have h1 : c ≠ d := fun e => h (by simp [e])
    have h2 : d ∉ r := fun e => h (by simp [e])
    rw [List.cons_append, splitL, if_neg h1, ih h2]
theorem splitL_joinL (d : UInt8) : ∀ ps : List (List UInt8), ps ≠ [] → (∀ p ∈ ps, d ∉ p) → splitL d (joinL d ps) = ps
  | [], h, _ => absurd rfl h
  | [p], _, h => splitL_part d p (h p (by simp))
  | p :: q :: r, _, h => by
    rw [joinL, splitL_more d p _ (h p (by simp)), splitL_joinL d (q :: r) (by simp) (fun x hx => h x (by simp [hx]))]
    simp
def plainP (p : List UInt8) : Prop := p ≠ [46] ∧ p ≠ [46, 46] ∧ (47 : UInt8) ∉ p
theorem cleanStep_plain (last : Bool) (acc : List (List UInt8)) (p : List UInt8) (ha : ∀ q ∈ acc, plainP q) (hp : (47 : UInt8) ∉ p) : ∀ q ∈ cleanStep last acc p, plainP q := by
  have hd : ∀ q ∈ acc.dropLast, plainP q := fun q hq => ha q ((List.dropLast_sublist acc).subset hq)
  have he : plainP [] := ⟨by simp, by simp, by simp⟩
  intro q hq
  unfold cleanStep at hq
  split at hq
  · split at hq
    · rcases List.mem_append.1 hq with h | h
      · exact ha q h
      · simp at h
        rw [h]
        exact he
    · exact ha q hq
  split at hq
  · split at hq
    · rcases List.mem_append.1 hq with h | h
      · exact hd q h
      · simp at h
        rw [h]
        exact he
    · exact hd q hq
  · rename_i h1 h2
    rcases List.mem_append.1 hq with h | h
    · exact ha q h
    · simp at h
      rw [h]
      exact ⟨h1, h2, hp⟩
theorem cleanParts_plain : ∀ (ps acc : List (List UInt8)), (∀ q ∈ acc, plainP q) → (∀ p ∈ ps, (47 : UInt8) ∉ p) → ∀ q ∈ cleanParts acc ps, plainP q
  | [], acc, ha, _, q, hq => ha q hq
  | p :: r, acc, ha, hp, q, hq => cleanParts_plain r _ (cleanStep_plain _ acc p ha (hp p (by simp))) (fun x hx => hp x (by simp [hx])) q hq
theorem cleanParts_ne : ∀ (ps acc : List (List UInt8)), ps ≠ [] → cleanParts acc ps ≠ []
  | [], _, h => absurd rfl h
  | [p], acc, _ => by
    simp only [cleanParts, List.isEmpty_nil]
    unfold cleanStep
    split
    · simp
    split
    · simp
    · simp
  | p :: q :: r, acc, _ => cleanParts_ne (q :: r) _ (by simp)
theorem cleanParts_same : ∀ (ps acc : List (List UInt8)), (∀ p ∈ ps, plainP p) → cleanParts acc ps = acc ++ ps
  | [], acc, _ => by simp [cleanParts]
  | p :: r, acc, h => by
    have hp := h p (by simp)
    rw [cleanParts, cleanStep, if_neg hp.1, if_neg hp.2.1, cleanParts_same r _ (fun x hx => h x (by simp [hx]))]
    simp
/-- The parts of a clean path. -/
theorem cleanL_parts (s : List UInt8) : ∃ ps, ps ≠ [] ∧ (∀ p ∈ ps, plainP p) ∧ cleanL s = 47 :: joinL 47 ps ∧ splitL 47 (cleanL s) = [] :: ps := by
  have h1 := cleanParts_plain (splitL 47 (bodyL s)) [] (by simp) (splitL_no 47 _)
  have h2 := cleanParts_ne (splitL 47 (bodyL s)) [] (splitL_ne 47 _)
  refine ⟨cleanParts [] (splitL 47 (bodyL s)), h2, h1, rfl, ?_⟩
  rw [cleanL, splitL, if_pos rfl, splitL_joinL 47 _ h2 (fun p hp => (h1 p hp).2.2)]
theorem cleanL_twice (s : List UInt8) : cleanL (cleanL s) = cleanL s := by
  obtain ⟨ps, hn, hp, hc, _⟩ := cleanL_parts s
  have e : cleanL (47 :: joinL 47 ps) = 47 :: joinL 47 (cleanParts [] (splitL 47 (joinL 47 ps))) := rfl
  rw [hc, e, splitL_joinL 47 ps hn (fun p h => (hp p h).2.2), cleanParts_same ps [] hp]
  simp
theorem dirL_prefix (l : List UInt8) : dirL l <+: l := by
  unfold dirL
  have h := List.dropWhile_suffix (l := l.reverse) (fun c : UInt8 => c != 47)
  have := List.reverse_prefix.2 h
  simpa using this
theorem dirL_twice (l : List UInt8) : dirL (dirL l) = dirL l := by
  unfold dirL
  rw [List.reverse_reverse]
  congr 1
  generalize l.reverse = r
  induction r with
  | nil => rfl
  | cons c t ih =>
    rw [List.dropWhile_cons]
    split
    · exact ih
    · rename_i h
      rw [List.dropWhile_cons, if_neg h]
end Go.Proofs.YtlmfhbffknganaaGreatDoor

/- What stands between a text's marks, by where the next mark stands. -/
namespace Go.Proofs.YtlmfhbffknganaaGreatDoor
open Go.RowKit

theorem ixOf_first (l : List UInt8) (c : UInt8) : (ixOf l c = -1 ∧ c ∉ l) ∨ ∃ n : Nat, n < l.length ∧ ixOf l c = n ∧ c ∉ l.take n ∧ l = l.take n ++ c :: l.drop (n + 1) := by
  unfold ixOf
  induction l with
  | nil => exact .inl ⟨rfl, by simp⟩
  | cons b r ih =>
    unfold Lib.indexByte
    by_cases hb : b = c
    · subst hb
      exact .inr ⟨0, by simp, by simp, by simp, rfl⟩
    · rw [if_neg (by simpa using hb)]
      rcases ih with ⟨h1, h2⟩ | ⟨n, h1, h2, h3, h4⟩
      · exact .inl ⟨by rw [h1]; rfl, by simp [h2, Ne.symm hb]⟩
      · refine .inr ⟨n + 1, by simpa using h1, ?_, by simp [h3, Ne.symm hb], by simp only [List.take_succ_cons, List.drop_succ_cons, List.cons_append]; rw [← h4]⟩
        rw [h2, if_neg (by simp)]
        simp

theorem extract_data (s : ByteArray) (a b : Nat) : (s.extract a b).data.toList = (s.data.toList.drop a).take (b - a) := by
  rw [ByteArray.data_extract, Array.toList_extract, List.extract_eq_take_drop]
theorem upto_data (s : ByteArray) (b : Nat) : (s.extract 0 b).data.toList = s.data.toList.take b := by rw [extract_data]; simp
theorem from_data (s : ByteArray) (a : Nat) : (s.extract a s.size).data.toList = s.data.toList.drop a := by
  rw [extract_data, List.take_of_length_le]
  simp
theorem bs_of {s : ByteArray} {l : List UInt8} (h : s.data.toList = l) : s = bs l := by rw [← h, bs_self]
/-- The parts of a text, as texts. -/
def partsOf (c : UInt8) (s : ByteArray) : List ByteArray := (splitL c s.data.toList).map bs
theorem partsOf_none (c : UInt8) (s : ByteArray) (h : c ∉ s.data.toList) : partsOf c s = [s] := by
  unfold partsOf
  rw [splitL_part c _ h, List.map_singleton, bs_self]
theorem partsOf_more (c : UInt8) (s : ByteArray) (n : Nat) (_hn : n < s.size) (h1 : c ∉ s.data.toList.take n) (h2 : s.data.toList = s.data.toList.take n ++ c :: s.data.toList.drop (n + 1)) :
    partsOf c s = s.extract 0 n :: partsOf c (s.extract (n + 1) s.size) := by
  unfold partsOf
  rw [h2, splitL_more c _ _ h1, List.map_cons, from_data, ← bs_of (upto_data s n)]
end Go.Proofs.YtlmfhbffknganaaGreatDoor

/- What a cursor goes over. -/
namespace Go.Proofs.YtlmfhbffknganaaGreatDoor
open Go.RowKit

theorem len_data (s : ByteArray) : s.data.toList.length = s.size := Array.length_toList
theorem rest_size (s : ByteArray) (k : Nat) : (s.extract k s.size).size = s.size - k := by simp
theorem run_rest_le (f : UInt8 → Bool) (s : ByteArray) (k : Nat) (hk : k ≤ s.size) : k + runL f (s.data.toList.drop k) ≤ s.size := by
  have := runL_le f (s.data.toList.drop k)
  rw [List.length_drop, len_data] at this
  omega
set_option maxHeartbeats 1000000 in
theorem over_any (K : Nat) (f : UInt8 → Bool) (hK : Kind K f) (b : Nat) (s : ByteArray) (hs : s.size ≤ 20000) (k : Nat) (w : World) (hc : Cur w b s k) :
    Calls Tryz.prog 88 #[.pointer (some ⟨b, 0, none⟩), .func (.func K) #[] #[]] w fun e w' => ∃ t : ByteArray, e = .returned (.string t) ∧ t.size = runL f (s.data.toList.drop k) ∧ Hid (t.data.toList = (s.data.toList.drop k).takeWhile f) ∧ Cur w' b s (k + runL f (s.data.toList.drop k)) ∧ w.grownBy w' (some b) := by
  obtain ⟨r, HR⟩ : ∃ r : ByteArray, Hid (s.extract k s.size = r) := ⟨_, rfl⟩
  have hr : r.size = s.size - k := by rw [← HR.out, rest_size]
  have HD : Hid (r.data.toList = s.data.toList.drop k) := by show _ = _; rw [← HR.out, from_data]
  obtain ⟨n, HN⟩ : ∃ n : Nat, Hid (runL f (s.data.toList.drop k) = n) := ⟨_, rfl⟩
  have hn : k + n ≤ s.size := by rw [← HN.out]; exact run_rest_le f s k hc.le
  have HC : Hid (Cur w b s k) := hc
  have HT : Hid ((r.extract 0 n).data.toList = (s.data.toList.drop k).takeWhile f) := by show _ = _; rw [upto_data, HD.out, ← HN.out, take_runL]
  have HZ : Hid ((r.extract 0 n).size = n) := by
    show _ = _
    simp
    omega
  obtain ⟨h1, h2, h3, h4⟩ := hc
  have hkS : (k : Int) ≤ (s.size : Int) := by omega
  go_enter Tryz.func88, Tryz.ntmps88
  go_wp2
  go_quiet (fail)
  rw [HR.out]
  go_wp2_with fail
  refine (run_any K f hK r (by omega) _).mono ?_
  rintro e w' ⟨rfl, hw⟩
  obtain rfl := hw.symm
  rw [HD.out, HN.out]
  have hnr : (n : Int) ≤ (r.size : Int) := by omega
  go_wp2
  go_ret
  refine ⟨_, rfl, ?_, ?_, ?_, ?_⟩
  · rw [HN.out]; exact HZ
  · exact HT
  · rw [HN.out]; exact (HC.out.drewN _).set _ hn _ (by push_cast; rfl)
  · exact grown_trans (grown_drewN w _ _) (grown_set _ _ _ _)
end Go.Proofs.YtlmfhbffknganaaGreatDoor

/- A cursor's blanks, words and marks, by the program. -/
namespace Go.Proofs.YtlmfhbffknganaaGreatDoor
open Go.RowKit

theorem ne_zero_list (t : ByteArray) (n : Nat) (h : t.size = n) : (!t.toList.isEmpty) = decide (0 < n) := by
  subst h
  rw [ByteArray.toList_eq]
  by_cases h0 : t.size = 0
  · have e : t.data.toList = [] := List.eq_nil_of_length_eq_zero (by rw [len_data]; exact h0)
    rw [e, decide_eq_false (by omega)]
    rfl
  · have e : t.data.toList ≠ [] := by
      intro e
      have := len_data t
      rw [e] at this
      exact h0 this.symm
    rw [decide_eq_true (by omega)]
    cases e2 : t.data.toList with
    | nil => exact absurd e2 e
    | cons x r => rfl
set_option maxHeartbeats 1000000 in
theorem blanks_any (b : Nat) (s : ByteArray) (hs : s.size ≤ 20000) (k : Nat) (w : World) (hc : Cur w b s k) :
    Calls Tryz.prog 50 #[.pointer (some ⟨b, 0, none⟩)] w fun e w' => e = .returned (.bool (decide (0 < runL blankB (s.data.toList.drop k)))) ∧ Cur w' b s (k + runL blankB (s.data.toList.drop k)) ∧ w.grownBy w' (some b) := by
  go_enter Tryz.func50, Tryz.ntmps50
  go_wp2_with (go_at_call 88; refine (over_any _ _ kind_blank b s (by omega) k _ hc).mono ?_; rintro e w' ⟨t, rfl, ht, HT, hc2, hg⟩)
  go_ret
  exact ⟨ret_bool (ne_zero_list t _ ht), hc2, hg⟩
set_option maxHeartbeats 1000000 in
theorem word_any (b : Nat) (s : ByteArray) (hs : s.size ≤ 20000) (k : Nat) (w : World) (hc : Cur w b s k) :
    Calls Tryz.prog 51 #[.pointer (some ⟨b, 0, none⟩)] w fun e w' => ∃ t : ByteArray, e = .returned (.string t) ∧ t.size = runL tokB (s.data.toList.drop k) ∧ Hid (t.data.toList = (s.data.toList.drop k).takeWhile tokB) ∧ Cur w' b s (k + runL tokB (s.data.toList.drop k)) ∧ w.grownBy w' (some b) := by
  have hle := run_rest_le tokB s k hc.le
  obtain ⟨n, HN⟩ : ∃ n : Nat, Hid (runL tokB (s.data.toList.drop k) = n) := ⟨_, rfl⟩
  rw [HN.out] at hle
  go_enter Tryz.func51, Tryz.ntmps51
  go_wp2_with (first | (go_at_call 88; refine (over_any _ _ kind_byte b s (by omega) k _ hc).mono ?_; rintro e w1 ⟨t, rfl, ht, HT, hc2, hg⟩; have htz : t.size ≤ 20000 := by rw [ht, HN.out]; omega) | (go_at_call 84; refine (clone_any _ htz _).mono ?_; rintro e w2 ⟨rfl, hb2⟩))
  go_ret
  exact ⟨t, rfl, ht, HT, hc2.below hb2, grown_trans hg (grown_below hb2 _)⟩
set_option maxHeartbeats 1000000 in
theorem mark_end (b : Nat) (s : ByteArray) (c : UInt8) (w : World) (hc : Cur w b s s.size) :
    Calls Tryz.prog 52 #[.pointer (some ⟨b, 0, none⟩), .int .u8 (c.toNat : Int)] w fun e w' => e = .returned (.bool false) ∧ ∃ n, w' = w.drewN n := by
  have HC : Hid (Cur w b s s.size) := hc
  have hend : ∀ n, Calls Tryz.prog 36 #[.pointer (some ⟨b, 0, none⟩)] (w.drewN n) fun e w' => e = .returned (.bool true) ∧ ∃ m, w' = (w.drewN n).drewN m := fun n => by
    refine (end_any b s s.size _ (HC.out.drewN n)).mono ?_
    rintro e w' ⟨rfl, h⟩
    exact ⟨ret_bool (by simp), h⟩
  clear hc
  go_enter Tryz.func52, Tryz.ntmps52
  go_wp2
  go_quiet ((go_at_call 36; exact Calls.quiet_of (hend _)))
  go_wp2
  go_ret
  exact ⟨rfl, _, rfl⟩
set_option maxHeartbeats 1000000 in
theorem mark_other (b : Nat) (s : ByteArray) (k : Nat) (hk : k < s.size) (c : UInt8) (hne : s[k] ≠ c) (w : World) (hc : Cur w b s k) :
    Calls Tryz.prog 52 #[.pointer (some ⟨b, 0, none⟩), .int .u8 (c.toNat : Int)] w fun e w' => e = .returned (.bool false) ∧ ∃ n, w' = w.drewN n := by
  have HC : Hid (Cur w b s k) := hc
  have hend : ∀ n, Calls Tryz.prog 36 #[.pointer (some ⟨b, 0, none⟩)] (w.drewN n) fun e w' => e = .returned (.bool false) ∧ ∃ m, w' = (w.drewN n).drewN m := fun n => by
    refine (end_any b s k _ (HC.out.drewN n)).mono ?_
    rintro e w' ⟨rfl, h⟩
    exact ⟨ret_bool (beq_eq_false_iff_ne.2 (by omega)), h⟩
  obtain ⟨d, hd⟩ : ∃ d : UInt8, s[k] = d := ⟨_, rfl⟩
  have hq : ((d.toNat : Int) != (c.toNat : Int)) = true := by
    rw [bne_iff_ne]
    intro e
    apply hne
    rw [hd]
    exact UInt8.toNat_inj.1 (by omega)
  obtain ⟨h1, h2, h3, h4⟩ := hc
  clear hne
  have hkS : (k : Int) < (s.size : Int) := by omega
  go_enter Tryz.func52, Tryz.ntmps52
  go_wp2
  go_quiet ((go_at_call 36; exact Calls.quiet_of (hend _)))
  go_wp2
  go_ret
  exact ⟨rfl, _, rfl⟩
set_option maxHeartbeats 1000000 in
theorem mark_yes (b : Nat) (s : ByteArray) (hs : s.size ≤ 20000) (k : Nat) (hk : k < s.size) (c : UInt8) (he : s[k] = c) (w : World) (hc : Cur w b s k) :
    Calls Tryz.prog 52 #[.pointer (some ⟨b, 0, none⟩), .int .u8 (c.toNat : Int)] w fun e w' => e = .returned (.bool true) ∧ Cur w' b s (k + 1) ∧ w.grownBy w' (some b) := by
  have HC : Hid (Cur w b s k) := hc
  have hend : ∀ n, Calls Tryz.prog 36 #[.pointer (some ⟨b, 0, none⟩)] (w.drewN n) fun e w' => e = .returned (.bool false) ∧ ∃ m, w' = (w.drewN n).drewN m := fun n => by
    refine (end_any b s k _ (HC.out.drewN n)).mono ?_
    rintro e w' ⟨rfl, h⟩
    exact ⟨ret_bool (beq_eq_false_iff_ne.2 (by omega)), h⟩
  have hq : ((c.toNat : Int) != (c.toNat : Int)) = false := by simp
  obtain ⟨h1, h2, h3, h4⟩ := hc
  have hkS : (k : Int) < (s.size : Int) := by omega
  go_enter Tryz.func52, Tryz.ntmps52
  go_wp2
  go_quiet ((go_at_call 36; exact Calls.quiet_of (hend _)))
  go_wp2
  go_ret
  exact ⟨rfl, (HC.out.drewN _).set _ (by omega) _ (by push_cast; rfl), grown_trans (grown_drewN w _ _) (grown_set _ _ _ _)⟩
/-- The place that a number stands for. -/
def clampK (n : Nat) (m : Int) : Nat := (max 0 (min m (n : Int))).toNat
theorem clampK_le (n : Nat) (m : Int) : clampK n m ≤ n := by unfold clampK; omega
end Go.Proofs.YtlmfhbffknganaaGreatDoor

/- A cursor elsewhere, by the program. -/
namespace Go.Proofs.YtlmfhbffknganaaGreatDoor
open Go.RowKit

set_option maxHeartbeats 1000000 in
theorem go_any (b : Nat) (s : ByteArray) (k : Nat) (m : Int) (w : World) (hc : Cur w b s k) :
    Calls Tryz.prog 97 #[.pointer (some ⟨b, 0, none⟩), .int .i64 m] w fun e w' => e = .returned (.tuple #[]) ∧ Cur w' b s (clampK s.size m) ∧ w.grownBy w' (some b) := by
  have HC : Hid (Cur w b s k) := hc
  obtain ⟨h1, h2, h3, h4⟩ := hc
  go_enter Tryz.func97, Tryz.ntmps97
  go_wp2
  refine bodyPost_end (v := .tuple #[]) (by simp [results, Tryz.f97]) rfl ⟨rfl, HC.out.set _ (clampK_le _ _) _ (by unfold clampK; omega), grown_set _ _ _ _⟩
end Go.Proofs.YtlmfhbffknganaaGreatDoor

/- A byte that may stand between marks, by the program. -/
namespace Go.Proofs.YtlmfhbffknganaaGreatDoor
open Go.RowKit Go.Shelf

theorem textB_9 (c : UInt8) (h : (c.toNat : Int) = 9) : textB c = true := by
  have : c = 9 := UInt8.toNat_inj.1 (by have : (9 : UInt8).toNat = 9 := rfl; omega)
  rw [this]
  decide
theorem textB_low (c : UInt8) (h : ¬ (c.toNat : Int) = 9) (h2 : ¬ (32 : Int) ≤ (c.toNat : Int)) : textB c = false := by
  have h3 : c ≠ 9 := by
    rintro rfl
    exact h rfl
  unfold textB
  rw [beq_eq_false_iff_ne.2 h3, decide_eq_false (by omega)]
  rfl
theorem textB_127 (c : UInt8) (h : (c.toNat : Int) = 127) : textB c = false := by
  have : c = 127 := UInt8.toNat_inj.1 (by have : (127 : UInt8).toNat = 127 := rfl; omega)
  rw [this]
  decide
theorem textB_yes (c : UInt8) (h2 : (32 : Int) ≤ (c.toNat : Int)) (h3 : ¬ (c.toNat : Int) = 127) : textB c = true := by
  have h4 : c ≠ 127 := by
    rintro rfl
    exact h3 rfl
  unfold textB
  rw [decide_eq_true (show 32 ≤ c.toNat by omega), bne_iff_ne.2 h4]
  simp
theorem text_any (c : UInt8) (w : World) : Calls Tryz.prog 54 #[.int .u8 (c.toNat : Int)] w fun e w' => e = .returned (.bool (textB c)) ∧ w' = w := by
  by_cases h : (c.toNat : Int) = 9
  · rw [textB_9 c h]
    go_enter Tryz.func54, Tryz.ntmps54
    go_wp2
    go_ret
    exact ⟨rfl, rfl⟩
  · by_cases h2 : (32 : Int) ≤ (c.toNat : Int)
    · by_cases h3 : (c.toNat : Int) = 127
      · rw [textB_127 c h3]
        go_enter Tryz.func54, Tryz.ntmps54
        go_wp2
        go_ret
        exact ⟨rfl, rfl⟩
      · rw [textB_yes c h2 h3]
        go_enter Tryz.func54, Tryz.ntmps54
        go_wp2
        go_ret
        exact ⟨ret_bool (by rw [bne_iff_ne.2 h3]; simp), rfl⟩
    · rw [textB_low c h h2]
      go_enter Tryz.func54, Tryz.ntmps54
      go_wp2
      go_ret
      exact ⟨ret_bool (beq_eq_false_iff_ne.2 h), rfl⟩
theorem kind_text : Kind 54 textB := ⟨text_any, enters_at Tryz.func54 (by kernel_rfl) rfl⟩
end Go.Proofs.YtlmfhbffknganaaGreatDoor

/- The text ahead of a closing mark, by the program. -/
namespace Go.Proofs.YtlmfhbffknganaaGreatDoor
open Go.RowKit

theorem drop_at (s : ByteArray) (k : Nat) (h : k < s.size) (c : UInt8) (e : s[k] = c) : s.data.toList.drop k = c :: s.data.toList.drop (k + 1) := by
  rw [List.drop_eq_getElem_cons (by rw [len_data]; exact h), ← e]
  rfl
/-- What is known of the whole behind k bytes: out stands there, escaped or not. -/
def UnqAt (l : List UInt8) (esc : Bool) (o : List UInt8) (k : Nat) : Prop := unqL false l = (unqL esc (l.drop k)).map fun x => (o ++ x.1, k + x.2)
theorem unq_bad {s : ByteArray} {esc : Bool} {o : List UInt8} {k : Nat} (h : UnqAt s.data.toList esc o k) (hk : k < s.size) (c : UInt8) (e : s[k] = c) (hc : textB c = false) : unqL false s.data.toList = none := by
  unfold UnqAt at h
  rw [h, drop_at s k hk c e, unqL, if_pos hc]
  rfl
theorem unq_esc1 {s : ByteArray} {o : List UInt8} {k : Nat} (h : UnqAt s.data.toList true o k) (hk : k < s.size) (c : UInt8) (e : s[k] = c) (hc : textB c = true) : UnqAt s.data.toList false (o ++ [c]) (k + 1) := by
  unfold UnqAt at *
  rw [h, drop_at s k hk c e, unqL, if_neg (by rw [hc]; simp), if_pos rfl, Option.map_map]
  congr 1
  funext x
  simp
  omega
theorem unq_mark {s : ByteArray} {o : List UInt8} {k : Nat} (h : UnqAt s.data.toList false o k) (hk : k < s.size) (e : s[k] = 34) : unqL false s.data.toList = some (o, k + 1) := by
  unfold UnqAt at h
  rw [h, drop_at s k hk 34 e, unqL]
  simp [show textB 34 = true by decide]
theorem unq_stroke {s : ByteArray} {o : List UInt8} {k : Nat} (h : UnqAt s.data.toList false o k) (hk : k < s.size) (e : s[k] = 92) : UnqAt s.data.toList true o (k + 1) := by
  unfold UnqAt at *
  rw [h, drop_at s k hk 92 e, unqL, if_neg (by decide), if_neg (by simp), if_neg (by decide), if_pos rfl, Option.map_map]
  congr 1
  funext x
  simp
  omega
theorem unq_byte {s : ByteArray} {o : List UInt8} {k : Nat} (h : UnqAt s.data.toList false o k) (hk : k < s.size) (c : UInt8) (e : s[k] = c) (hc : textB c = true) (h1 : c ≠ 34) (h2 : c ≠ 92) : UnqAt s.data.toList false (o ++ [c]) (k + 1) := by
  unfold UnqAt at *
  rw [h, drop_at s k hk c e, unqL, if_neg (by rw [hc]; simp), if_neg (by simp), if_neg h1, if_neg h2, Option.map_map]
  congr 1
  funext x
  simp
  omega
theorem unq_over {s : ByteArray} {esc : Bool} {o : List UInt8} {k : Nat} (h : UnqAt s.data.toList esc o k) (hk : s.size ≤ k) : unqL false s.data.toList = none := by
  unfold UnqAt at h
  rw [h, List.drop_of_length_le (by rw [len_data]; exact hk), unqL]
  rfl
theorem back_any {w : World} {B : Nat} {v : Value} {l : List UInt8} (h : Own w B v l) : (convert 67 9 v).run Tryz.prog w = .ok (.string (bs l)) w := by
  rcases h.2 with ⟨rfl, hl⟩ | ⟨g, cap, cur, rfl, _⟩
  · have e : l = [] := List.eq_nil_of_length_eq_zero hl
    subst e
    simp [convert, underlying, Tryz.underlying67, Tryz.underlying9, Tryz.underlying5, bs]
    rfl
  · exact h.back rfl
theorem own_nil (w : World) (B : Nat) : Own w B (.slice none 0 0) [] := ⟨rfl, .inl ⟨rfl, rfl⟩⟩
def UnqAns (s : ByteArray) (e : Ending) : Prop :=
  (∃ (t : List UInt8) (n : Nat), unqL false s.data.toList = some (t, n) ∧ e = .returned (.tuple #[.string (bs t), .int .i64 (n : Int), .bool true])) ∨ (unqL false s.data.toList = none ∧ e = .returned (.tuple #[.string ⟨#[]⟩, .int .i64 0, .bool false]))
set_option maxRecDepth 100000 in
set_option maxHeartbeats 2000000 in
theorem unquote_any (s : ByteArray) (hs : s.size ≤ 5000) (w : World) :
    Calls Tryz.prog 55 #[.string s] w fun e w' => UnqAns s e ∧ Below w.heap.size w w' := by
  go_enter Tryz.func55, Tryz.ntmps55
  go_wp2
  go_loopw [5, 6, 11] (fun v q i wr => ∃ (k n : Nat) (esc : Bool) (o : List UInt8), k ≤ s.size ∧ n ≤ k ∧ i = .int .i64 k ∧ q = .bool esc ∧ Hid (Own wr w.heap.size v o ∧ o.length = n ∧ UnqAt s.data.toList esc o k) ∧ Below w.heap.size w wr) (fun _ _ i _ => s.size - (intOf i).toNat)
  case atStart => exact ⟨0, 0, false, [], Nat.zero_le _, Nat.le_refl _, rfl, rfl, ⟨own_nil _ _, rfl, by unfold UnqAt; simp⟩, Below.refl _ _⟩
  case round =>
    obtain ⟨k, n, esc, o, hk, hn, rfl, rfl, HO, hb⟩ := hrel
    have hwz : w.heap.size ≤ wr.heap.size := hb.size
    by_cases hlt : k < s.size
    · obtain ⟨c, hcd⟩ : ∃ c : UInt8, s[k] = c := ⟨_, rfl⟩
      have hcl : (c.toNat : Int) < 256 := by have := c.toNat_lt; omega
      cases hf : textB c
      · have HA : Hid (unqL false s.data.toList = none) := unq_bad HO.out.2.2 hlt c hcd hf
        clear HO
        go_wp2_with (go_at_call 54; refine (text_any c _).mono ?_; rintro e w' ⟨rfl, hw⟩; obtain rfl := hw.symm; rw [hf])
        go_ret3
        exact ⟨.inr ⟨HA, rfl⟩, hb⟩
      · cases esc
        · by_cases h34 : c = 34
          · subst h34
            have HA : Hid (unqL false s.data.toList = some (o, k + 1)) := unq_mark HO.out.2.2 hlt hcd
            have hback := back_any HO.out.1
            have hf' := text_any 34
            go_wp2_with (go_at_call 54; refine (hf' _).mono ?_; rintro e w' ⟨rfl, hw⟩; obtain rfl := hw.symm; rw [hf])
            go_ret3
            exact ⟨.inl ⟨_, _, HA, by push_cast; rfl⟩, hb⟩
          · by_cases h92 : c = 92
            · subst h92
              have HA : Hid (UnqAt s.data.toList true o (k + 1)) := unq_stroke HO.out.2.2 hlt hcd
              have hf' := text_any 92
              go_wp2_with (go_at_call 54; refine (hf' _).mono ?_; rintro e w' ⟨rfl, hw⟩; obtain rfl := hw.symm; rw [hf])
              go_roundw
              case rel => exact ⟨k + 1, n, true, o, by omega, by omega, by go_num, rfl, ⟨HO.out.1, HO.out.2.1, HA⟩, hb⟩
              case measure => simp [intOf]; omega
            · have HA : Hid (UnqAt s.data.toList false (o ++ [c]) (k + 1)) := unq_byte HO.out.2.2 hlt c hcd hf h34 h92
              have q34 : ((c.toNat : Int) == 34) = false := beq_eq_false_iff_ne.2 fun h => h34 ((u8_is (n := 34) (by omega)).1 h)
              have q92 : ((c.toNat : Int) == 92) = false := beq_eq_false_iff_ne.2 fun h => h92 ((u8_is (n := 92) (by omega)).1 h)
              clear h34 h92
              go_wp2_with (first | (go_at_call 54; refine (text_any c _).mono ?_; rintro e w' ⟨rfl, hw⟩; obtain rfl := hw.symm; rw [hf]) | (at_builtin; refine wp_app1 rfl _ _ rfl w.heap.size w wr u5 o n rfl HO.out.1 HO.out.2.1 (by omega) hb hwz c _ (by rfl) rfl ?_; intro g4 cap4 w4 hown4 hb4 _ _; have HO4 : Hid (Own w4 w.heap.size (.slice (some ⟨g4, 0, none⟩) (n + 1) cap4) (o ++ [c])) := hown4; clear hown4))
              go_roundw
              case rel => exact ⟨k + 1, n + 1, false, o ++ [c], by omega, by omega, by go_num, rfl, ⟨HO4.out, by rw [List.length_append, HO.out.2.1]; rfl, HA⟩, hb4⟩
              case measure => simp [intOf]; omega
        · have HA : Hid (UnqAt s.data.toList false (o ++ [c]) (k + 1)) := unq_esc1 HO.out.2.2 hlt c hcd hf
          go_wp2_with (first | (go_at_call 54; refine (text_any c _).mono ?_; rintro e w' ⟨rfl, hw⟩; obtain rfl := hw.symm; rw [hf]) | (at_builtin; refine wp_app1 rfl _ _ rfl w.heap.size w wr u5 o n rfl HO.out.1 HO.out.2.1 (by omega) hb hwz c _ (by rfl) rfl ?_; intro g4 cap4 w4 hown4 hb4 _ _; have HO4 : Hid (Own w4 w.heap.size (.slice (some ⟨g4, 0, none⟩) (n + 1) cap4) (o ++ [c])) := hown4; clear hown4))
          go_roundw
          case rel => exact ⟨k + 1, n + 1, false, o ++ [c], by omega, by omega, by go_num, rfl, ⟨HO4.out, by rw [List.length_append, HO.out.2.1]; rfl, HA⟩, hb4⟩
          case measure => simp [intOf]; omega
    · have HA : Hid (unqL false s.data.toList = none) := unq_over HO.out.2.2 (by omega)
      clear HO
      go_wp2
      go_ret3
      exact ⟨.inr ⟨HA, rfl⟩, hb⟩
end Go.Proofs.YtlmfhbffknganaaGreatDoor

/- What the document says of words, texts between marks and lists, among themselves. -/
namespace Go.Proofs.YtlmfhbffknganaaGreatDoor

theorem text_34 : textB 34 = true := by decide
theorem text_92 : textB 92 = true := by decide
theorem unq_esc (s more : List UInt8) (h : s.all textB = true) : unqL false (escL s ++ 34 :: more) = some (s, (escL s).length + 1) := by
  induction s with
  | nil => simp [escL, unqL, text_34]
  | cons c t ih =>
    rw [List.all_cons, Bool.and_eq_true] at h
    have ih := ih h.2
    rw [escL]
    split
    · rename_i hc
      simp only [List.cons_append]
      have e : unqL true (c :: (escL t ++ 34 :: more)) = some (c :: t, (escL t).length + 1 + 1) := by
        rw [unqL, ih]
        simp [h.1]
      rw [unqL, e]
      simp [text_92]
    · rename_i hc
      simp only [List.cons_append]
      rw [unqL, ih]
      have h1 : c ≠ 34 := fun e => hc (.inl e)
      have h2 : c ≠ 92 := fun e => hc (.inr e)
      simp [h.1, h1, h2]
theorem quoted_quote (s more : List UInt8) (h : s.all textB = true) : quotedL (quoteL s ++ more) = some (s, (quoteL s).length) := by
  unfold quoteL
  simp only [List.cons_append, List.append_assoc, List.nil_append]
  rw [quotedL, unq_esc s more h]
  simp
theorem unq_size : ∀ (l : List UInt8) (e : Bool) (t : List UInt8) (n : Nat), unqL e l = some (t, n) → t.length + 1 ≤ n ∧ n ≤ l.length
  | [], e, t, n, h => by simp [unqL] at h
  | c :: r, e, t, n, h => by
    rw [unqL] at h
    split at h
    · cases h
    · split at h
      · obtain ⟨⟨a, b⟩, h1, h2⟩ := Option.map_eq_some_iff.1 h
        have := unq_size r _ _ _ h1
        simp only [Prod.mk.injEq] at h2
        obtain ⟨rfl, rfl⟩ := h2
        simp
        omega
      · split at h
        · cases h
          simp
        · split at h
          · obtain ⟨⟨a, b⟩, h1, h2⟩ := Option.map_eq_some_iff.1 h
            have := unq_size r _ _ _ h1
            simp only [Prod.mk.injEq] at h2
            obtain ⟨rfl, rfl⟩ := h2
            simp
            omega
          · obtain ⟨⟨a, b⟩, h1, h2⟩ := Option.map_eq_some_iff.1 h
            have := unq_size r _ _ _ h1
            simp only [Prod.mk.injEq] at h2
            obtain ⟨rfl, rfl⟩ := h2
            simp
            omega
theorem quoted_size (l t : List UInt8) (n : Nat) (h : quotedL l = some (t, n)) : t.length + 2 ≤ n ∧ n ≤ l.length := by
  cases l with
  | nil => cases h
  | cons c r =>
    rw [quotedL] at h
    split at h
    · obtain ⟨⟨a, b⟩, h1, h2⟩ := Option.map_eq_some_iff.1 h
      have := unq_size r _ _ _ h1
      simp only [Prod.mk.injEq] at h2
      obtain ⟨rfl, rfl⟩ := h2
      simp
      omega
    · cases h
/-- A value, and what stands behind it, is read as what it is. -/
theorem value_word (s v more : List UInt8) (hm : ∀ c t, more = c :: t → tokB c = false) (h : valueO s = some v) :
    (isL s = true ∧ v = s ∧ (v ++ more).takeWhile tokB = s) ∨ (isL s = false ∧ (v ++ more).takeWhile tokB = [] ∧ quotedL (v ++ more) = some (s, v.length)) := by
  have hmore : more.takeWhile tokB = [] := by
    cases more with
    | nil => rfl
    | cons c t => rw [List.takeWhile_cons, hm c t rfl]; rfl
  unfold valueO at h
  split at h
  · rename_i hs
    cases h
    refine .inl ⟨hs, rfl, ?_⟩
    unfold isL at hs
    rw [Bool.and_eq_true] at hs
    rw [List.takeWhile_append_of_pos (by simpa [List.all_eq_true] using hs.2), hmore, List.append_nil]
  · rename_i hs
    unfold quoteO at h
    split at h
    · rename_i ht
      cases h
      refine .inr ⟨by simpa using hs, ?_, quoted_quote s more ht⟩
      unfold quoteL
      rw [List.cons_append, List.takeWhile_cons, show tokB 34 = false by decide]
      rfl
    · cases h

theorem dw_comma (f : UInt8 → Bool) (hf : f 44 = false) (p t : List UInt8) : (p ++ 44 :: t).dropWhile f = p.dropWhile f ++ 44 :: t := by
  induction p with
  | nil => simp [hf]
  | cons c r ih =>
    by_cases h : f c = true
    · simp [h, ih]
    · simp [h]
theorem tw_comma (f : UInt8 → Bool) (hf : f 44 = false) (p t : List UInt8) : (p ++ 44 :: t).takeWhile f = p.takeWhile f := by
  induction p with
  | nil => simp [hf]
  | cons c r ih =>
    by_cases h : f c = true
    · simp [h, ih]
    · simp [h]
theorem wordP_comma (p t : List UInt8) : wordP (p ++ 44 :: t) = wordP p := by
  unfold wordP
  rw [dw_comma _ blank_not_comma, tw_comma _ tok_not_comma]
theorem restP_comma (p t : List UInt8) : restP (p ++ 44 :: t) = restP p ++ 44 :: t := by
  unfold restP
  rw [dw_comma _ blank_not_comma, dw_comma _ tok_not_comma, dw_comma _ blank_not_comma]
theorem restP_suffix (p : List UInt8) : restP p <:+ p := by
  unfold restP
  exact (List.dropWhile_suffix _).trans ((List.dropWhile_suffix _).trans (List.dropWhile_suffix _))
theorem cut_at (l : List UInt8) : 44 ∈ l → ∃ p t, l = p ++ 44 :: t ∧ 44 ∉ p := by
  induction l with
  | nil => intro h; cases h
  | cons c r ih =>
    intro h
    by_cases hc : c = 44
    · exact ⟨[], r, by rw [hc]; rfl, by simp⟩
    · obtain ⟨p, t, e, hp⟩ := ih (by simpa [Ne.symm hc] using h)
      exact ⟨c :: p, t, by rw [e]; rfl, by simp [hp, Ne.symm hc]⟩
theorem split_cases (l : List UInt8) : (44 ∉ l ∧ splitL 44 l = [l]) ∨ ∃ p t, l = p ++ 44 :: t ∧ 44 ∉ p ∧ splitL 44 l = p :: splitL 44 t := by
  by_cases h : 44 ∈ l
  · obtain ⟨p, t, rfl, hp⟩ := cut_at l h
    exact .inr ⟨p, t, rfl, hp, splitL_more 44 p t hp⟩
  · exact .inl ⟨h, splitL_part 44 l h⟩
theorem list_end (k : Nat) (l : List UInt8) (h : restP l = []) : listP k (splitL 44 l) = .ok (consW (wordP l) []) := by
  rcases split_cases l with ⟨_, e⟩ | ⟨p, t, rfl, _, _⟩
  · rw [e, listP, if_pos h, listP]
    rfl
  · rw [restP_comma] at h
    simp at h
theorem list_more (k : Nat) (l t : List UInt8) (h : restP l = 44 :: t) : listP k (splitL 44 l) = (listP (k + (l.length - t.length)) (splitL 44 t)).map (consW (wordP l)) := by
  rcases split_cases l with ⟨hn, e⟩ | ⟨p, t', rfl, hn, e⟩
  · exact absurd ((restP_suffix l).mem (by rw [h]; simp)) hn
  · rw [restP_comma] at h
    cases hr : restP p with
    | nil =>
      rw [hr] at h
      simp only [List.nil_append, List.cons.injEq, true_and] at h
      subst h
      rw [e, listP, if_pos hr, wordP_comma]
      congr 2
      simp
      omega
    | cons c r =>
      rw [hr] at h
      simp only [List.cons_append, List.cons.injEq] at h
      exact absurd ((restP_suffix p).mem (by rw [hr, h.1]; simp)) hn
theorem list_bad (k : Nat) (l t : List UInt8) (c : UInt8) (h : restP l = c :: t) (hc : c ≠ 44) : listP k (splitL 44 l) = .error (k + (l.length - (restP l).length)) := by
  rcases split_cases l with ⟨hn, e⟩ | ⟨p, t', rfl, hn, e⟩
  · rw [e, listP, if_neg (by rw [h]; simp)]
  · rw [restP_comma] at h
    cases hr : restP p with
    | nil =>
      rw [hr] at h
      simp only [List.nil_append, List.cons.injEq] at h
      exact absurd h.1.symm hc
    | cons c' r =>
      rw [e, listP, if_neg (by rw [hr]; simp), restP_comma]
      congr 2
      simp
      omega
/-- All parts hold a word or nothing. -/
def okP (P : List (List UInt8)) : Prop := ∀ p ∈ P, restP p = []
def wordsP : List (List UInt8) → List (List UInt8)
  | [] => []
  | p :: r => consW (wordP p) (wordsP r)
theorem wordsP_append (a b : List (List UInt8)) : wordsP (a ++ b) = wordsP a ++ wordsP b := by
  induction a with
  | nil => rfl
  | cons p r ih =>
    rw [List.cons_append, wordsP, wordsP, ih]
    unfold consW
    split <;> rfl
theorem listP_ok (P : List (List UInt8)) : ∀ (k : Nat) (x : List (List UInt8)), listP k P = .ok x ↔ okP P ∧ x = wordsP P := by
  induction P with
  | nil =>
    intro k x
    rw [listP, wordsP]
    constructor
    · intro h
      refine ⟨fun p hp => ?_, ?_⟩
      · cases hp
      · cases h
        rfl
    · intro h
      rw [h.2]
  | cons p r ih =>
    intro k x
    rw [listP, wordsP]
    by_cases h : restP p = []
    · rw [if_pos h]
      cases e : listP (k + p.length + 1) r with
      | error n =>
        refine ⟨fun hh => (by cases hh), fun hh => ?_⟩
        have := (ih (k + p.length + 1) (wordsP r)).2 ⟨fun q hq => hh.1 q (by simp [hq]), rfl⟩
        rw [e] at this
        cases this
      | ok y =>
        have := (ih _ _).1 e
        refine ⟨fun hh => ⟨fun q hq => ?_, ?_⟩, fun hh => ?_⟩
        · rcases List.mem_cons.1 hq with rfl | hq
          · exact h
          · exact this.1 q hq
        · rw [← this.2]
          have : Except.ok (consW (wordP p) y) = Except.ok (ε := Nat) x := hh
          exact (Except.ok.inj this).symm
        · rw [hh.2, ← this.2]
          rfl
    · rw [if_neg h]
      exact ⟨fun hh => (by cases hh), fun hh => absurd (hh.1 p (by simp)) h⟩
def OkL (l : List UInt8) (x : List (List UInt8)) : Prop := okP (splitL 44 l) ∧ x = wordsP (splitL 44 l)
theorem okL_comma {a b : List UInt8} {x y : List (List UInt8)} (ha : OkL a x) (hb : OkL b y) : OkL (a ++ 44 :: b) (x ++ y) := by
  have e : splitL 44 (a ++ 44 :: b) = splitL 44 a ++ splitL 44 b := by
    clear ha hb
    induction a with
    | nil => simp [splitL]
    | cons c r ih =>
      rw [List.cons_append, splitL, splitL]
      by_cases hc : c = 44
      · rw [if_pos hc, if_pos hc, ih]
        rfl
      · rw [if_neg hc, if_neg hc, ih]
        cases e : splitL 44 r with
        | nil => exact absurd e (splitL_ne 44 r)
        | cons p q => rfl
  refine ⟨?_, ?_⟩
  · rw [e]
    intro p hp
    rcases List.mem_append.1 hp with hp | hp
    · exact ha.1 p hp
    · exact hb.1 p hp
  · rw [e, wordsP_append, ← ha.2, ← hb.2]
theorem okL_front {b : List UInt8} {y : List (List UInt8)} (c : UInt8) (hc : blankB c = true) (hb : OkL b y) : OkL (c :: b) y := by
  have hne : c ≠ 44 := by
    rintro rfl
    cases hc
  obtain ⟨p, r, e⟩ : ∃ p r, splitL 44 b = p :: r := by
    cases e : splitL 44 b with
    | nil => exact absurd e (splitL_ne 44 b)
    | cons p r => exact ⟨p, r, rfl⟩
  unfold OkL at *
  rw [splitL, if_neg hne, e]
  rw [e] at hb
  have h1 : restP (c :: p) = restP p := by
    unfold restP
    rw [List.dropWhile_cons, if_pos hc]
  have h2 : wordP (c :: p) = wordP p := by
    unfold wordP
    rw [List.dropWhile_cons, if_pos hc]
  dsimp only
  rw [wordsP, h2]
  refine ⟨fun q hq => ?_, hb.2⟩
  rcases List.mem_cons.1 hq with rfl | hq
  · rw [h1]
    exact hb.1 p (by simp)
  · exact hb.1 q (by simp [hq])
theorem dw_nil (f : UInt8 → Bool) (p : List UInt8) : p.dropWhile f = [] ↔ p.all f = true := by
  induction p with
  | nil => simp
  | cons c r ih =>
    by_cases h : f c = true
    · simp [h, ih]
    · simp [h]
theorem dw_snoc (f : UInt8 → Bool) (p : List UInt8) (c : UInt8) : (p ++ [c]).dropWhile f = if p.dropWhile f = [] then [c].dropWhile f else p.dropWhile f ++ [c] := by
  induction p with
  | nil => simp
  | cons d r ih =>
    by_cases h : f d = true
    · simp only [List.cons_append, List.dropWhile_cons, h, if_true, ih]
    · simp [h]
theorem tw_snoc (f : UInt8 → Bool) (p : List UInt8) (c : UInt8) (hc : f c = false) : (p ++ [c]).takeWhile f = p.takeWhile f := by
  induction p with
  | nil => simp [hc]
  | cons d r ih =>
    by_cases h : f d = true
    · simp [h, ih]
    · simp [h]
theorem part_back (p : List UInt8) (c : UInt8) (hc : blankB c = true) (h : restP p = []) : restP (p ++ [c]) = [] ∧ wordP (p ++ [c]) = wordP p := by
  have ht : tokB c = false := by
    unfold blankB at hc
    rcases Bool.or_eq_true _ _ ▸ hc with h | h
    · rw [eq_of_beq h]; decide
    · rw [eq_of_beq h]; decide
  have h1 : [c].dropWhile blankB = [] := by simp [hc]
  have h2 : [c].dropWhile tokB = [c] := by simp [ht]
  unfold restP wordP at *
  rw [dw_snoc blankB p c]
  by_cases h3 : p.dropWhile blankB = []
  · rw [if_pos h3, h1, h3]
    exact ⟨rfl, rfl⟩
  · rw [if_neg h3, tw_snoc _ _ _ ht, dw_snoc]
    refine ⟨?_, rfl⟩
    by_cases h4 : (p.dropWhile blankB).dropWhile tokB = []
    · rw [if_pos h4, h2, h1]
    · rw [if_neg h4, dw_snoc, if_pos h, h1]
theorem okL_back : ∀ (n : Nat) (a : List UInt8) (x : List (List UInt8)) (c : UInt8), a.length ≤ n → blankB c = true → OkL a x → OkL (a ++ [c]) x
  | n, a, x, c, hn, hc, ha => by
    have hne : c ≠ 44 := by
      rintro rfl
      cases hc
    rcases split_cases a with ⟨h, e⟩ | ⟨p, t, rfl, h, e⟩
    · unfold OkL at *
      rw [e] at ha
      rw [splitL_part 44 (a ++ [c]) (by simp [h, Ne.symm hne])]
      have := part_back a c hc (ha.1 a (by simp))
      refine ⟨fun q hq => ?_, ?_⟩
      · rw [List.mem_singleton.1 hq]
        exact this.1
      · rw [ha.2]
        simp only [wordsP, this.2]
    · cases n with
      | zero => simp at hn
      | succ n =>
        unfold OkL at ha
        rw [e] at ha
        have ht : OkL t (wordsP (splitL 44 t)) := ⟨fun q hq => ha.1 q (by simp [hq]), rfl⟩
        have := okL_back n t _ c (by simp at hn; omega) hc ht
        unfold OkL
        rw [List.append_assoc, List.cons_append, splitL_more 44 p _ h]
        refine ⟨fun q hq => ?_, ?_⟩
        · rcases List.mem_cons.1 hq with rfl | hq
          · exact ha.1 q (by simp)
          · exact this.1 q hq
        · rw [ha.2, wordsP, wordsP, ← this.2]
theorem okL_nil : OkL [] [] := by
  refine ⟨fun p hp => ?_, rfl⟩
  have : p = [] := by simpa [splitL] using hp
  rw [this]
  rfl
/-- Blank, comma, tab between two lists, once or more. -/
def gapsL : Nat → List UInt8
  | 0 => []
  | n + 1 => 32 :: 44 :: 9 :: gapsL n
theorem okL_gaps {b : List UInt8} {y : List (List UInt8)} (hb : OkL b y) : ∀ (n : Nat) (a : List UInt8) (x : List (List UInt8)), OkL a x → OkL (a ++ gapsL (n + 1) ++ b) (x ++ y)
  | 0, a, x, ha => by
    have := okL_comma (okL_back _ a x 32 (Nat.le_refl _) rfl ha) (okL_front 9 rfl hb)
    simpa [gapsL] using this
  | n + 1, a, x, ha => by
    have h0 : OkL [] [] := okL_nil
    have h1 := okL_gaps hb n [9] [] (okL_front 9 rfl h0)
    have := okL_comma (okL_back _ a x 32 (Nat.le_refl _) rfl ha) h1
    simpa [gapsL] using this
/-- Words with a comma and a blank between. -/
def joinC : List (List UInt8) → List UInt8
  | [] => []
  | [w] => w
  | w :: r => w ++ 44 :: 32 :: joinC r
theorem isL_word (w : List UInt8) (h : isL w = true) : w ≠ [] ∧ w.all tokB = true ∧ 44 ∉ w ∧ OkL w [w] := by
  unfold isL at h
  rw [Bool.and_eq_true] at h
  have h1 : w ≠ [] := by
    rintro rfl
    cases h.1
  have h2 : 44 ∉ w := by
    intro hm
    have := List.all_eq_true.1 h.2 44 hm
    cases this
  have hb : w.dropWhile blankB = w := by
    cases w with
    | nil => rfl
    | cons c t =>
      have hc := List.all_eq_true.1 h.2 c (by simp)
      have : blankB c = false := by
        unfold blankB
        rw [Bool.or_eq_false_iff]
        refine ⟨beq_eq_false_iff_ne.2 ?_, beq_eq_false_iff_ne.2 ?_⟩
        · rintro rfl
          cases hc
        · rintro rfl
          cases hc
      rw [List.dropWhile_cons, this]
      rfl
  have hd : w.dropWhile tokB = [] := (dw_nil _ _).2 h.2
  have ht : w.takeWhile tokB = w := by
    have := List.takeWhile_append_dropWhile (p := tokB) (l := w)
    rw [hd, List.append_nil] at this
    exact this
  refine ⟨h1, h.2, h2, ?_⟩
  unfold OkL
  rw [splitL_part 44 w h2]
  refine ⟨fun q hq => ?_, ?_⟩
  · rw [List.mem_singleton.1 hq]
    unfold restP
    rw [hb, hd]
    rfl
  · simp only [wordsP, wordP, hb, ht, consW]
    rw [if_neg h1]
theorem okL_join : ∀ l : List (List UInt8), (∀ w ∈ l, isL w = true) → OkL (joinC l) l
  | [], _ => okL_nil
  | [w], h => (isL_word w (h w (by simp))).2.2.2
  | w :: v :: r, h => by
    have ih := okL_join (v :: r) (fun x hx => h x (by simp [hx]))
    have hw := (isL_word w (h w (by simp))).2.2.2
    exact okL_comma hw (okL_front 32 rfl ih)
theorem words_are (P : List (List UInt8)) : ∀ w ∈ wordsP P, isL w = true := by
  induction P with
  | nil => intro w hw; cases hw
  | cons p r ih =>
    intro w hw
    rw [wordsP, consW] at hw
    split at hw
    · exact ih w hw
    · rename_i hne
      rcases List.mem_cons.1 hw with rfl | hw
      · unfold isL
        rw [Bool.and_eq_true]
        refine ⟨by simpa using hne, ?_⟩
        unfold wordP
        exact List.all_takeWhile
      · exact ih w hw
theorem okL_words {l : List UInt8} {x : List (List UInt8)} (h : OkL l x) : ∀ w ∈ x, isL w = true := by
  rw [h.2]
  exact words_are _
theorem okL_iff (l : List UInt8) (x : List (List UInt8)) : listP 0 (splitL 44 l) = .ok x ↔ OkL l x := listP_ok _ _ _
/-- One digit more; noughts ahead. -/
theorem sec_digit (s : List UInt8) (n : Nat) (c : UInt8) (hc : digB c = true) (h : secL s = some n) : secL (s ++ [c]) = some (min (10 * n + (c.toNat - 48)) 2147483648) := by
  unfold secL at *
  split at h
  · cases h
  · rename_i hn
    cases h
    rw [if_neg, secN_snoc]
    · rfl
    · rintro (h1 | h1)
      · simp at h1
      · apply hn
        right
        rw [List.all_append] at h1
        simpa [hc] using h1
theorem sec_noughts (s : List UInt8) (n k : Nat) (h : secL s = some n) : secL (List.replicate k 48 ++ s) = some n := by
  induction k with
  | zero => exact h
  | succ k ih =>
    rw [List.replicate_succ, List.cons_append]
    unfold secL at *
    split at ih
    · cases ih
    · rename_i hn
      cases ih
      rw [if_neg]
      · rfl
      · rintro (h1 | h1)
        · cases h1
        · apply hn
          right
          rw [List.all_cons] at h1
          simpa [show digB 48 = true by decide] using h1
end Go.Proofs.YtlmfhbffknganaaGreatDoor

/- The text between marks at a cursor, by the program. -/
namespace Go.Proofs.YtlmfhbffknganaaGreatDoor
open Go.RowKit

theorem quotedL_end (s : ByteArray) : quotedL (s.data.toList.drop s.size) = none := by
  rw [List.drop_of_length_le (by rw [len_data]; exact Nat.le_refl _)]
  rfl
theorem quotedL_other (s : ByteArray) (k : Nat) (hk : k < s.size) (h : s[k] ≠ 34) : quotedL (s.data.toList.drop k) = none := by
  rw [drop_at s k hk _ rfl, quotedL, if_neg h]
theorem quotedL_mark (s : ByteArray) (k : Nat) (hk : k < s.size) (h : s[k] = 34) : quotedL (s.data.toList.drop k) = (unqL false (s.data.toList.drop (k + 1))).map fun x => (x.1, x.2 + 1) := by
  rw [drop_at s k hk 34 h, quotedL, if_pos rfl]
def QtdAns (b : Nat) (s : ByteArray) (k : Nat) (w : World) (e : Ending) (w' : World) : Prop :=
  (∃ (t : List UInt8) (n : Nat), quotedL (s.data.toList.drop k) = some (t, n) ∧ e = .returned (.tuple #[.string (bs t), .bool true]) ∧ Cur w' b s (k + n) ∧ w.grownBy w' (some b)) ∨
  (quotedL (s.data.toList.drop k) = none ∧ e = .returned (.tuple #[.string ⟨#[]⟩, .bool false]) ∧ Cur w' b s k ∧ w.grownBy w' (some b))
theorem qtd_none (b : Nat) (s : ByteArray) (k : Nat) (h : quotedL (s.data.toList.drop k) = none) (w : World) (hc : Cur w b s k)
    (hm : Calls Tryz.prog 52 #[.pointer (some ⟨b, 0, none⟩), .int .u8 34] w fun e w' => e = .returned (.bool false) ∧ ∃ n, w' = w.drewN n) :
    Calls Tryz.prog 25 #[.pointer (some ⟨b, 0, none⟩)] w (QtdAns b s k w) := by
  have HC : Hid (Cur w b s k) := hc
  have HA : Hid (quotedL (s.data.toList.drop k) = none) := h
  clear h
  obtain ⟨h1, h2, h3, h4⟩ := hc
  go_enter Tryz.func25, Tryz.ntmps25
  go_wp2_with (go_at_call 52; refine hm.mono ?_; rintro e w' ⟨rfl, n, hw⟩; obtain rfl := hw)
  go_ret2
  exact .inr ⟨HA, rfl, (HC.out.drewN _).set _ h4 _ rfl, grown_trans (grown_drewN w _ _) (grown_set _ _ _ _)⟩
theorem keepC {w W W' : World} {b : Nat} {s : ByteArray} {k : Nat} {x : Int} (h : W.cell? ⟨b, 0, none⟩ = some (.string s) ∧ W.cell? ⟨b, 1, none⟩ = some (.int .i64 x) ∧ Hid (Cur W b s k ∧ w.grownBy W (some b))) (hb : Below W.heap.size W W') :
    W'.cell? ⟨b, 0, none⟩ = some (.string s) ∧ W'.cell? ⟨b, 1, none⟩ = some (.int .i64 x) ∧ Hid (Cur W' b s k ∧ w.grownBy W' (some b)) := by
  obtain ⟨h1, h2, h3⟩ := h
  have hlt := h3.out.1.lt
  exact ⟨(hb.cell (p := ⟨b, 0, none⟩) hlt).trans h1, (hb.cell (p := ⟨b, 1, none⟩) hlt).trans h2, h3.out.1.below hb, grown_trans h3.out.2 (grown_below hb _)⟩
set_option maxRecDepth 100000 in
set_option maxHeartbeats 2000000 in
theorem quoted_any (b : Nat) (s : ByteArray) (hs : s.size ≤ 5000) (k : Nat) (w : World) (hc : Cur w b s k) :
    Calls Tryz.prog 25 #[.pointer (some ⟨b, 0, none⟩)] w (QtdAns b s k w) := by
  by_cases hk : k < s.size
  · by_cases h34 : s[k] = 34
    · have HC : Hid (Cur w b s k) := hc
      have HQ : Hid (quotedL (s.data.toList.drop k) = (unqL false (s.data.toList.drop (k + 1))).map fun x => (x.1, x.2 + 1)) := quotedL_mark s k hk h34
      have hm := mark_yes b s (by omega) k hk 34 h34 w hc
      obtain ⟨r, HR⟩ : ∃ r : ByteArray, Hid (s.extract (k + 1) s.size = r) := ⟨_, rfl⟩
      have hr : r.size ≤ 5000 := by rw [← HR.out, rest_size]; omega
      have HD : Hid (r.data.toList = s.data.toList.drop (k + 1)) := by show _ = _; rw [← HR.out, from_data]
      obtain ⟨h1, h2, h3, h4⟩ := hc
      clear h34
      obtain ⟨p, hp⟩ : ∃ p : Nat, k + 1 = p := ⟨_, rfl⟩
      have HP : Hid (k + 1 = p) := hp
      have hp0 : (0 : Int) ≤ (p : Int) := by omega
      have hpS : (p : Int) ≤ (s.size : Int) := by omega
      rw [hp] at HR HD HQ hm
      clear hp
      rcases hu : unqL false r.data.toList with _ | ⟨t, n⟩
      · have hU : ∀ w, Calls Tryz.prog 55 #[.string r] w fun e w' => e = .returned (.tuple #[.string ⟨#[]⟩, .int .i64 0, .bool false]) ∧ Below w.heap.size w w' := fun w => by
          refine (unquote_any r hr w).mono ?_
          rintro e w' ⟨⟨t, n, h, _⟩ | ⟨_, rfl⟩, hb⟩
          · rw [hu] at h; cases h
          · exact ⟨rfl, hb⟩
        have HA : Hid (quotedL (s.data.toList.drop k) = none) := by show _ = _; rw [HQ.out, ← HD.out, hu]; rfl
        clear hu
        go_enter Tryz.func25, Tryz.ntmps25
        go_wp2_with (go_at_call 52; refine hm.mono ?_; rintro e w1 ⟨rfl, hc1, hg1⟩)
        have hQ : w1.drew.cell? ⟨b, 0, none⟩ = some (.string s) ∧ w1.drew.cell? ⟨b, 1, none⟩ = some (.int .i64 (p : Int)) ∧ Hid (Cur w1.drew b s p ∧ w.grownBy w1.drew (some b)) :=
          ⟨hc1.text, hc1.place, hc1.drew, ⟨hg1.os, hg1.tape, hg1.output, hg1.size, hg1.block⟩⟩
        go_region_held3 (fun W => W.cell? ⟨b, 0, none⟩ = some (.string s) ∧ W.cell? ⟨b, 1, none⟩ = some (.int .i64 (p : Int)) ∧ Hid (Cur W b s p ∧ w.grownBy W (some b))) (first | assumption | exact hQ) (
          (go_at_call 55; rw [HR.out]; refine (hU _).mono ?_; rintro e w3 ⟨rfl, hb3⟩; have hQ3 := keepC (by assumption) hb3))
        obtain ⟨q1, q2, q3⟩ := hQ3
        have q4 := q3.out.1.free
        go_wp2
        go_ret2
        exact .inr ⟨HA, rfl, q3.out.1.set _ h4 _ rfl, grown_trans q3.out.2 (grown_set _ _ _ _)⟩
      · have hU : ∀ w, Calls Tryz.prog 55 #[.string r] w fun e w' => e = .returned (.tuple #[.string (bs t), .int .i64 (n : Int), .bool true]) ∧ Below w.heap.size w w' := fun w => by
          refine (unquote_any r hr w).mono ?_
          rintro e w' ⟨⟨t', n', h, rfl⟩ | ⟨h, _⟩, hb⟩
          · rw [hu] at h; cases h; exact ⟨rfl, hb⟩
          · rw [hu] at h; cases h
        have HA : Hid (quotedL (s.data.toList.drop k) = some (t, n + 1)) := by show _ = _; rw [HQ.out, ← HD.out, hu]; rfl
        have hn : p + n ≤ s.size := by
          have := (unq_size _ _ _ _ hu).2
          rw [HD.out, List.length_drop, len_data] at this
          omega
        clear hu
        obtain ⟨x, HX⟩ : ∃ x : ByteArray, Hid (bs t = x) := ⟨_, rfl⟩
        rw [HX.out] at hU
        go_enter Tryz.func25, Tryz.ntmps25
        go_wp2_with (go_at_call 52; refine hm.mono ?_; rintro e w1 ⟨rfl, hc1, hg1⟩)
        have hQ : w1.drew.cell? ⟨b, 0, none⟩ = some (.string s) ∧ w1.drew.cell? ⟨b, 1, none⟩ = some (.int .i64 (p : Int)) ∧ Hid (Cur w1.drew b s p ∧ w.grownBy w1.drew (some b)) :=
          ⟨hc1.text, hc1.place, hc1.drew, ⟨hg1.os, hg1.tape, hg1.output, hg1.size, hg1.block⟩⟩
        go_region_held3 (fun W => W.cell? ⟨b, 0, none⟩ = some (.string s) ∧ W.cell? ⟨b, 1, none⟩ = some (.int .i64 (p : Int)) ∧ Hid (Cur W b s p ∧ w.grownBy W (some b))) (first | assumption | exact hQ) (
          (go_at_call 55; rw [HR.out]; refine (hU _).mono ?_; rintro e w3 ⟨rfl, hb3⟩; have hQ3 := keepC (by assumption) hb3))
        obtain ⟨q1, q2, q3⟩ := hQ3
        have q4 := q3.out.1.free
        go_wp2
        go_ret2
        exact .inl ⟨t, n + 1, HA, by rw [HX.out]; rfl, by rw [show k + (n + 1) = p + n by have := HP.out; omega]; exact q3.out.1.set _ hn _ (by push_cast; rfl), grown_trans q3.out.2 (grown_set _ _ _ _)⟩
    · exact qtd_none b s k (quotedL_other s k hk h34) w hc (mark_other b s k hk 34 h34 w hc)
  · obtain rfl : k = s.size := by have := hc.le; omega
    exact qtd_none b s s.size (quotedL_end s) w hc (mark_end b s 34 w hc)
end Go.Proofs.YtlmfhbffknganaaGreatDoor

/- A cursor by what stands behind it. -/
namespace Go.Proofs.YtlmfhbffknganaaGreatDoor
open Go.RowKit

/-- A cursor at block b, and what stands behind it. -/
def CurR (w : World) (b : Nat) (s : ByteArray) (r : List UInt8) : Prop := Cur w b s (s.size - r.length) ∧ r <:+ s.data.toList
theorem suff_drop {r l : List UInt8} (h : r <:+ l) : l.drop (l.length - r.length) = r := by
  obtain ⟨p, rfl⟩ := h
  rw [List.length_append, Nat.add_sub_cancel, List.drop_left]
theorem suff_len {r l : List UInt8} (h : r <:+ l) : r.length ≤ l.length := h.length_le
theorem CurR.rest {w : World} {b : Nat} {s : ByteArray} {r : List UInt8} (h : CurR w b s r) : s.data.toList.drop (s.size - r.length) = r := by
  have := suff_drop h.2
  rw [len_data] at this
  exact this
theorem CurR.len {w : World} {b : Nat} {s : ByteArray} {r : List UInt8} (h : CurR w b s r) : r.length ≤ s.size := by
  have := suff_len h.2
  rw [len_data] at this
  exact this
theorem CurR.mk' {w : World} {b k : Nat} {s : ByteArray} {r r' : List UInt8} (h : r <:+ s.data.toList) (hr : r' <:+ r) (hc : Cur w b s k) (hk : k + r'.length = s.size) : CurR w b s r' := by
  refine ⟨?_, hr.trans h⟩
  rw [show s.size - r'.length = k by omega]
  exact hc
theorem CurR.grown {w w' : World} {b : Nat} {s : ByteArray} {r : List UInt8} {row : Option Nat} (h : CurR w b s r) (hg : w.grownBy w' row) (hr : some b ≠ row) : CurR w' b s r := ⟨h.1.grown hg hr, h.2⟩
theorem CurR.below {w w' : World} {b : Nat} {s : ByteArray} {r : List UInt8} (h : CurR w b s r) (hb : Below w.heap.size w w') : CurR w' b s r := ⟨h.1.below hb, h.2⟩
theorem CurR.drewN {w : World} {b : Nat} {s : ByteArray} {r : List UInt8} (h : CurR w b s r) (n : Nat) : CurR (w.drewN n) b s r := ⟨h.1.drewN n, h.2⟩
theorem CurR.lt {w : World} {b : Nat} {s : ByteArray} {r : List UInt8} (h : CurR w b s r) : b < w.heap.size := h.1.lt
theorem dw_suff (f : UInt8 → Bool) (l : List UInt8) : l.dropWhile f <:+ l := List.dropWhile_suffix f
theorem run_dw (f : UInt8 → Bool) (l : List UInt8) : runL f l + (l.dropWhile f).length = l.length := by
  have := congrArg List.length (List.takeWhile_append_dropWhile (p := f) (l := l))
  rw [List.length_append] at this
  exact this
theorem run_pos (f : UInt8 → Bool) (l : List UInt8) : 0 < runL f l ↔ l.takeWhile f ≠ [] := by
  unfold runL
  rw [List.length_pos_iff]
theorem rd_blanks (b : Nat) (s : ByteArray) (hs : s.size ≤ 3000) (r : List UInt8) (w : World) (hc : CurR w b s r) :
    Calls Tryz.prog 50 #[.pointer (some ⟨b, 0, none⟩)] w fun e w' => e = .returned (.bool (decide (0 < runL blankB r))) ∧ CurR w' b s (r.dropWhile blankB) ∧ w.grownBy w' (some b) := by
  refine (blanks_any b s (by omega) _ w hc.1).mono ?_
  rintro e w' ⟨rfl, h, hg⟩
  rw [hc.rest] at h ⊢
  refine ⟨rfl, CurR.mk' hc.2 (dw_suff _ _) h ?_, hg⟩
  have := run_dw blankB r
  have := hc.len
  omega
theorem rd_word (b : Nat) (s : ByteArray) (hs : s.size ≤ 3000) (r : List UInt8) (w : World) (hc : CurR w b s r) :
    Calls Tryz.prog 51 #[.pointer (some ⟨b, 0, none⟩)] w fun e w' => ∃ t : ByteArray, e = .returned (.string t) ∧ t.size = runL tokB r ∧ Hid (t = bs (r.takeWhile tokB)) ∧ CurR w' b s (r.dropWhile tokB) ∧ w.grownBy w' (some b) := by
  refine (word_any b s (by omega) _ w hc.1).mono ?_
  rintro e w' ⟨t, rfl, ht, HT, h, hg⟩
  rw [hc.rest] at h ht HT
  refine ⟨t, rfl, ht, bs_of HT.out, CurR.mk' hc.2 (dw_suff _ _) h ?_, hg⟩
  have := run_dw tokB r
  have := hc.len
  omega
theorem curR_cons {w : World} {b : Nat} {s : ByteArray} {c : UInt8} {t : List UInt8} (h : CurR w b s (c :: t)) : ∃ hk : s.size - (c :: t).length < s.size, s[s.size - (c :: t).length] = c := by
  have hl := h.len
  have hk : s.size - (c :: t).length < s.size := by rw [List.length_cons] at hl ⊢; omega
  refine ⟨hk, ?_⟩
  have := h.rest
  rw [List.drop_eq_getElem_cons (by rw [len_data]; exact hk)] at this
  exact (List.cons.inj this).1
theorem rd_mark_yes (b : Nat) (s : ByteArray) (hs : s.size ≤ 3000) (c : UInt8) (t : List UInt8) (w : World) (hc : CurR w b s (c :: t)) :
    Calls Tryz.prog 52 #[.pointer (some ⟨b, 0, none⟩), .int .u8 (c.toNat : Int)] w fun e w' => e = .returned (.bool true) ∧ CurR w' b s t ∧ w.grownBy w' (some b) := by
  obtain ⟨hk, he⟩ := curR_cons hc
  refine (mark_yes b s (by omega) _ hk c he w hc.1).mono ?_
  rintro e w' ⟨rfl, h, hg⟩
  refine ⟨rfl, CurR.mk' hc.2 (List.suffix_cons c t) h ?_, hg⟩
  have := hc.len
  rw [List.length_cons] at this ⊢
  omega
theorem rd_mark_no (b : Nat) (s : ByteArray) (c : UInt8) (r : List UInt8) (hr : ∀ t, r ≠ c :: t) (w : World) (hc : CurR w b s r) :
    Calls Tryz.prog 52 #[.pointer (some ⟨b, 0, none⟩), .int .u8 (c.toNat : Int)] w fun e w' => e = .returned (.bool false) ∧ ∃ n, w' = w.drewN n := by
  cases r with
  | nil =>
    have h := hc.1
    rw [List.length_nil, Nat.sub_zero] at h
    exact mark_end b s c w h
  | cons d t =>
    obtain ⟨hk, he⟩ := curR_cons hc
    exact mark_other b s _ hk c (by rw [he]; intro e; exact hr t (by rw [e])) w hc.1
theorem rd_at (b : Nat) (s : ByteArray) (r : List UInt8) (w : World) (hc : CurR w b s r) :
    Calls Tryz.prog 26 #[.pointer (some ⟨b, 0, none⟩)] w fun e w' => e = .returned (.int .i64 ((s.size - r.length : Nat) : Int)) ∧ w' = w := at_any b s _ w hc.1
theorem rd_end (b : Nat) (s : ByteArray) (r : List UInt8) (w : World) (hc : CurR w b s r) :
    Calls Tryz.prog 36 #[.pointer (some ⟨b, 0, none⟩)] w fun e w' => e = .returned (.bool r.isEmpty) ∧ ∃ n, w' = w.drewN n := by
  refine (end_any b s _ w hc.1).mono ?_
  rintro e w' ⟨rfl, h⟩
  refine ⟨ret_bool ?_, h⟩
  have hl := hc.len
  cases r with
  | nil => simp
  | cons c t =>
    rw [List.length_cons] at hl ⊢
    rw [List.isEmpty_cons, beq_eq_false_iff_ne]
    omega
theorem rd_go (b : Nat) (s : ByteArray) (r r' : List UInt8) (hr : r' <:+ s.data.toList) (m : Int) (hm : m = ((s.size - r'.length : Nat) : Int)) (w : World) (hc : CurR w b s r) :
    Calls Tryz.prog 97 #[.pointer (some ⟨b, 0, none⟩), .int .i64 m] w fun e w' => e = .returned (.tuple #[]) ∧ CurR w' b s r' ∧ w.grownBy w' (some b) := by
  subst hm
  refine (go_any b s _ _ w hc.1).mono ?_
  rintro e w' ⟨rfl, h, hg⟩
  have hl := suff_len hr
  rw [len_data] at hl
  refine ⟨rfl, ⟨?_, hr⟩, hg⟩
  have : clampK s.size ((s.size - r'.length : Nat) : Int) = s.size - r'.length := by unfold clampK; omega
  rw [this] at h
  exact h
theorem rd_quoted (b : Nat) (s : ByteArray) (hs : s.size ≤ 3000) (r : List UInt8) (w : World) (hc : CurR w b s r) :
    Calls Tryz.prog 25 #[.pointer (some ⟨b, 0, none⟩)] w fun e w' =>
      ((∃ (t : List UInt8) (n : Nat), quotedL r = some (t, n) ∧ e = .returned (.tuple #[.string (bs t), .bool true]) ∧ CurR w' b s (r.drop n)) ∨ (quotedL r = none ∧ e = .returned (.tuple #[.string ⟨#[]⟩, .bool false]) ∧ CurR w' b s r)) ∧ w.grownBy w' (some b) := by
  refine (quoted_any b s (by omega) _ w hc.1).mono ?_
  intro e w' h
  unfold QtdAns at h
  rw [hc.rest] at h
  rcases h with ⟨t, n, h1, h2, h3, h4⟩ | ⟨h1, h2, h3, h4⟩
  · refine ⟨.inl ⟨t, n, h1, h2, CurR.mk' hc.2 (List.drop_suffix _ _) h3 ?_⟩, h4⟩
    have := (quoted_size _ _ _ h1).2
    have := hc.len
    rw [List.length_drop]
    omega
  · exact ⟨.inr ⟨h1, h2, ⟨h3, hc.2⟩⟩, h4⟩
end Go.Proofs.YtlmfhbffknganaaGreatDoor

/- A text in small letters by the program, told as a list of bytes. -/
namespace Go.Proofs.YtlmfhbffknganaaGreatDoor
open Go.RowKit

def low (c : UInt8) : UInt8 := if 65 ≤ c ∧ c ≤ 90 then c + 32 else c
theorem low_in (c : UInt8) (h : 65 ≤ (c.toNat : Int) ∧ (c.toNat : Int) ≤ 90) : UInt8.ofNat ((c.toNat : Int) + 32).toNat = low c := by
  have h1 : 65 ≤ c := by rw [UInt8.le_iff_toNat_le]; have : (65 : UInt8).toNat = 65 := rfl; omega
  have h2 : c ≤ 90 := by rw [UInt8.le_iff_toNat_le]; have : (90 : UInt8).toNat = 90 := rfl; omega
  unfold low
  rw [if_pos ⟨h1, h2⟩]
  apply UInt8.toNat_inj.1
  have := c.toNat_lt
  simp only [UInt8.toNat_ofNat', UInt8.toNat_add]
  have : (32 : UInt8).toNat = 32 := rfl
  omega
theorem low_out (c : UInt8) (h : ¬ (65 ≤ (c.toNat : Int) ∧ (c.toNat : Int) ≤ 90)) : low c = c := by
  unfold low
  rw [if_neg]
  rintro ⟨h1, h2⟩
  rw [UInt8.le_iff_toNat_le] at h1 h2
  have : (65 : UInt8).toNat = 65 := rfl
  have : (90 : UInt8).toNat = 90 := rfl
  omega
theorem step_set (f : UInt8 → UInt8) (l : List UInt8) (k : Nat) (c : UInt8) (h : k < l.length) (hc : l[k] = c) : ((l.take k).map f ++ l.drop k).set k (f c) = (l.take (k + 1)).map f ++ l.drop (k + 1) := by
  subst hc
  have e1 : ((l.take k).map f).length = k := by simp; omega
  rw [List.drop_eq_getElem_cons h, List.set_append_right _ _ (by omega), e1, Nat.sub_self, List.set_cons_zero, List.take_succ_eq_append_getElem h, List.map_append, List.append_assoc]
  rfl
theorem step_at (f : UInt8 → UInt8) (l : List UInt8) (k : Nat) (h : k < l.length) (h2 : k < ((l.take k).map f ++ l.drop k).length) : ((l.take k).map f ++ l.drop k)[k] = l[k] := by
  have e1 : ((l.take k).map f).length = k := by simp; omega
  rw [List.getElem_append_right (by omega)]
  simp only [List.getElem_drop, e1, Nat.sub_self, Nat.add_zero]
theorem step_same (f : UInt8 → UInt8) (l : List UInt8) (k : Nat) (c : UInt8) (h : k < l.length) (hc : l[k] = c) (hf : f c = c) : (l.take k).map f ++ l.drop k = (l.take (k + 1)).map f ++ l.drop (k + 1) := by
  subst hc
  rw [List.drop_eq_getElem_cons h, List.take_succ_eq_append_getElem h, List.map_append, List.append_assoc, List.map_cons, hf]
  rfl
theorem low_num (c : UInt8) (h : 65 ≤ (c.toNat : Int) ∧ (c.toNat : Int) ≤ 90) : (c.toNat : Int) + 32 = (low c).toNat := by
  rw [← low_in c h, ofNat_back _ (by omega) (by omega)]

set_option maxHeartbeats 400000 in
theorem lower_any (s : ByteArray) (w : World) (hs : s.size ≤ 20000) :
    Calls Tryz.prog 17 #[.string s] w fun e w' => e = .returned (.string (bs (s.data.toList.map low))) ∧ Below w.heap.size w w' := by
  obtain ⟨cap, W1, hconv, hrow, hbel, hsz⟩ := conv_bytes s w
  have HR : Hid (Row W1 w.heap.size s.data.toList) := hrow
  clear hrow
  go_enter Tryz.func17, Tryz.ntmps17
  go_wp2
  go_loopw [9] (fun i wr => ∃ (k : Nat), k ≤ s.size ∧ i = .int .i64 k ∧ Hid (Row wr w.heap.size ((s.data.toList.take k).map low ++ s.data.toList.drop k)) ∧ Below w.heap.size w wr ∧ wr.heap.size = w.heap.size + 1) (fun i _ => s.size - (intOf i).toNat)
  case atStart => exact ⟨0, Nat.zero_le _, rfl, HR, hbel, hsz⟩
  case round =>
    obtain ⟨k, hk, rfl, HW, hb, hz⟩ := hrel
    by_cases hlt : k < s.size
    · have hlt' : k < s.data.toList.length := by simpa using hlt
      obtain ⟨c, hcd⟩ : ∃ c : UInt8, s.data.toList[k] = c := ⟨_, rfl⟩
      have HC : Hid (s.data.toList[k] = c) := hcd
      have hcl : (c.toNat : Int) < 256 := by have := c.toNat_lt; omega
      have hlen : k < ((s.data.toList.take k).map low ++ s.data.toList.drop k).length := by simp; omega
      have hcell : wr.cell? ⟨w.heap.size, k, none⟩ = some (.int .u8 c.toNat) := by
        rw [← hcd, ← step_at low s.data.toList k hlt' hlen]; exact (HW.out k hlen).1
      have hfro : wr.frozen? ⟨w.heap.size, k, none⟩ = false := (HW.out k hlen).2
      clear hconv HR hbel hsz hcd hlen
      by_cases h1 : 65 ≤ (c.toNat : Int)
      · by_cases h2 : (c.toNat : Int) ≤ 90
        · go_wp2
          go_roundw
          case rel => exact ⟨k + 1, by omega, by go_num, by rw [← step_set low _ k c hlt' HC.out]; exact HW.out.set k _ _ (low_num c ⟨h1, h2⟩), hb.setCell (Nat.le_refl _) _, by simp [World.setCell, hz]⟩
          case measure => simp [intOf]; omega
        · go_wp2
          go_roundw
          case rel => exact ⟨k + 1, by omega, by go_num, by rw [← step_same low _ k c hlt' HC.out (low_out c (by omega))]; exact HW, hb, hz⟩
          case measure => simp [intOf]; omega
      · go_wp2
        go_roundw
        case rel => exact ⟨k + 1, by omega, by go_num, by rw [← step_same low _ k c hlt' HC.out (low_out c (by omega))]; exact HW, hb, hz⟩
        case measure => simp [intOf]; omega
    · have hke : k = s.size := by omega
      have hend : (s.data.toList.take k).map low ++ s.data.toList.drop k = s.data.toList.map low := by
        rw [List.take_of_length_le (by simp; omega), List.drop_of_length_le (by simp; omega), List.append_nil]
      have hrow : Row wr w.heap.size (s.data.toList.map low) := by rw [← hend]; exact HW.out
      have hback := conv_back hrow s.size cap (by simp)
      clear hend hrow HW hke hconv HR hbel hsz
      go_wp2
      go_ret
      exact ⟨rfl, hb⟩
end Go.Proofs.YtlmfhbffknganaaGreatDoor

/- Whether two texts are alike, by the program. -/
namespace Go.Proofs.YtlmfhbffknganaaGreatDoor
open Go.RowKit

def sameL (a b : List UInt8) : Bool := a.map low == b.map low
theorem eq_bs (a b : List UInt8) : ((bs a).toList == (bs b).toList) = (a == b) := by rw [ByteArray.toList_eq, ByteArray.toList_eq, bs_data, bs_data]
set_option maxHeartbeats 1000000 in
theorem same_any (s t : ByteArray) (hs : s.size ≤ 4000) (ht : t.size ≤ 4000) (w : World) :
    Calls Tryz.prog 27 #[.string s, .string t] w fun e w' => e = .returned (.bool (sameL s.data.toList t.data.toList)) ∧ Below w.heap.size w w' := by
  obtain ⟨x, HX⟩ : ∃ x : ByteArray, Hid (bs (s.data.toList.map low) = x) := ⟨_, rfl⟩
  obtain ⟨y, HY⟩ : ∃ y : ByteArray, Hid (bs (t.data.toList.map low) = y) := ⟨_, rfl⟩
  have HS : Hid (sameL s.data.toList t.data.toList = (x.toList == y.toList)) := by show _ = _; rw [← HX.out, ← HY.out, eq_bs]; rfl
  go_enter Tryz.func27, Tryz.ntmps27
  go_wp2_with fail
  refine (lower_any s _ (by omega)).mono ?_
  rintro e w1 ⟨rfl, hb1⟩
  rw [HX.out]
  go_wp2_with fail
  refine (lower_any t _ (by omega)).mono ?_
  rintro e w2 ⟨rfl, hb2⟩
  rw [HY.out]
  go_wp2
  go_ret
  exact ⟨ret_bool HS.out.symm, hb1.trans (hb2.mono hb1.size)⟩
end Go.Proofs.YtlmfhbffknganaaGreatDoor

/- What a challenge is. -/
namespace Go.Proofs.YtlmfhbffknganaaGreatDoor

abbrev Par := ByteArray × ByteArray
structure Chal where
  scheme : ByteArray
  token : ByteArray
  params : List Par
end Go.Proofs.YtlmfhbffknganaaGreatDoor
